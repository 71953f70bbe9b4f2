import Derived.Test.YtilkbfmaofmjoaaGreatDoorZj39
import Derived.Test.YtilkbfmaofmjoaaGreatDoorZj40
import Derived.Test.YtilkbfmaofmjoaaGreatDoorZj37
import Derived.Laws.StructEq
import Derived.ChangeKeysEq
namespace Go.Proofs.YtilkbfmaofmjoaaGreatDoor
open Go.RowKit Go.Rel
set_option linter.unusedSimpArgs false
set_option linter.unusedVariables false
theorem noT_list : noT.toList = [] := by rw [Lib.toList_data]
theorem put_cA {T : Tb CkW} {k : ByteArray} {v : CkW} {i : Nat} : cA (T.putT k v i) = (cA T).putT k v.a i := (Tb.putT_map _ T k v i).symm
theorem has_map {α β : Type} (f : α → β) (T : Tb α) (k : ByteArray) : (getR (T.map f).l k).isSome = (getR T.l k).isSome := by
  show (getR (T.l.map (rwMap f)) k).isSome = _
  rw [getR_map, Option.isSome_map]
theorem chk_bad {d : Ro} {x : CkA} {i e : Nat} (h : d.wrongC x = e) (he : e ≠ 0) : d.check x i = (e, d) := by
  unfold Ro.check
  rw [h, if_pos he]
structure CkIn (x : Rw CkA) : Prop where
  node : -9223372036854775808 ≤ x.val.node ∧ x.val.node ≤ 9223372036854775807
  status : -9223372036854775808 ≤ x.val.status ∧ x.val.status ≤ 9223372036854775807
  id : x.val.id.size ≤ maxLen
  svc : x.val.svc.size ≤ maxLen
  note : x.val.note.size ≤ maxLen
theorem right_sz {s : ByteArray} (h : rightB s.data.toList = true) : s.size ≤ 140737488355328 := by
  have := (right_len h).2
  rw [data_len] at this
  omega
def rckNE (B : Nat) (B1 : Nat) (B2 : Nat) (X : Nat) (x : Rw CkA) (k0 : ByteArray) : Nat → Value
  | 0 | 1 | 2 => .pointer (some ⟨B, 0, none⟩)
  | 3 => .pointer (some ⟨B1, 0, none⟩)
  | 4 => .func (.func 52) #[.int .i64 x.val.node] #[]
  | 5 => .string k0
  | 6 => .bool false
  | 7 | 8 | 24 | 25 => .bool true
  | _ => undef
def rckME (B : Nat) (B1 : Nat) (B2 : Nat) (X : Nat) (x : Rw CkA) (k0 : ByteArray) : Nat → Value
  | 0 | 1 | 2 => .pointer (some ⟨B, 0, none⟩)
  | 3 => .pointer (some ⟨B1, 0, none⟩)
  | 4 => .func (.func 52) #[.int .i64 x.val.node] #[]
  | 5 => .string k0
  | 6 => .bool true
  | 7 | 8 | 11 | 12 | 23 | 24 | 25 => .bool false
  | 9 => .pointer (some ⟨X, 2, none⟩)
  | 10 => .string x.val.svc
  | _ => undef
def rckSE (B : Nat) (B1 : Nat) (B2 : Nat) (X : Nat) (x : Rw CkA) (k0 : ByteArray) (k1 : ByteArray) (b : Bool) : Nat → Value
  | 0 | 1 | 2 | 13 | 14 => .pointer (some ⟨B, 0, none⟩)
  | 3 => .pointer (some ⟨B1, 0, none⟩)
  | 4 | 17 => .func (.func 52) #[.int .i64 x.val.node] #[]
  | 5 => .string k0
  | 6 | 11 | 12 => .bool true
  | 7 | 8 => .bool false
  | 9 | 18 => .pointer (some ⟨X, 2, none⟩)
  | 10 | 19 => .string x.val.svc
  | 15 => .pointer (some ⟨B, 1, none⟩)
  | 16 => .pointer (some ⟨B2, 0, none⟩)
  | 20 => .string k1
  | 21 => .bool b
  | 22 | 23 | 24 | 25 => .bool (!b)
  | _ => undef
def rclE (B : Nat) (B3 : Nat) (X : Nat) (x : Rw CkA) (i : Nat) (k : ByteArray) (er : Nat) : Nat → Value
  | 0 | 1 => .pointer (some ⟨B, 0, none⟩)
  | 2 => .pointer (some ⟨B, 2, none⟩)
  | 3 => .pointer (some ⟨B3, 0, none⟩)
  | 4 => .agg #[.func (.func 96) #[] #[], .func (.func 97) #[] #[]]
  | 5 => .func (.func 97) #[] #[]
  | 6 => .agg #[.int .i64 x.val.node, .string x.val.id, .string x.val.svc, .string x.val.note, .int .i64 x.val.status, .int .u64 (x.made : Int), .int .u64 (x.ix : Int)]
  | 7 => .agg #[.string k, .int .i64 x.val.node, .string x.val.id, .string x.val.svc, .string x.val.note, .int .i64 x.val.status, .int .u64 (x.made : Int), .int .u64 (x.ix : Int), .int .u64 (x.made : Int), .int .u64 (x.ix : Int)]
  | 8 => .int .u64 (i : Int)
  | 9 | 10 => .int .i64 (er : Int)
  | _ => undef
set_option maxHeartbeats 8000000 in
set_option maxRecDepth 100000 in
theorem rcheck_any {S : Nat → Prop} {w : World} {B B1 B2 B3 m : Nat} {d : Ro} (x : Rw CkA) (i : Nat) (h : RoAt S w B B1 B2 B3 m d) (hx : CkIn x) (hi : i < 18446744073709551616) : Calls Tryz.prog 20 #[.pointer (some ⟨B, 0, none⟩), ckV x, .int .u64 (i : Int)] w fun e w' => e = .returned (.int .i64 ((d.check x.val i).1 : Int)) ∧ RoAt (fun k => S k ∨ w.heap.size ≤ k) w' B B1 B2 B3 m (d.check x.val i).2 ∧ But (Ch3 B1 B2 B3) w w' := by
  have HAt := Lib.hid h
  obtain ⟨hok, T1, T2, T3, h, e1, e2, e3⟩ := h
  obtain ⟨X, hX⟩ : ∃ X, w.heap.size = X := ⟨_, rfl⟩
  have b0 := below1 w #[.int .i64 x.val.node, .string x.val.id, .string x.val.svc, .string x.val.note, .int .i64 x.val.status, .int .u64 (x.made : Int), .int .u64 (x.ix : Int)] TCk
  have k0 := heap_alloc_new w (.cells #[.int .i64 x.val.node, .string x.val.id, .string x.val.svc, .string x.val.note, .int .i64 x.val.status, .int .u64 (x.made : Int), .int .u64 (x.ix : Int)] TCk)
  obtain ⟨w1, hw1⟩ : ∃ w1, w.alloc (.cells #[.int .i64 x.val.node, .string x.val.id, .string x.val.svc, .string x.val.note, .int .i64 x.val.status, .int .u64 (x.made : Int), .int .u64 (x.ix : Int)] TCk) = w1 := ⟨_, rfl⟩
  rw [hw1] at b0 k0
  rw [hX] at k0
  have HX0 := Lib.hid hX
  have HW1 := Lib.hid hw1
  have HB1 := Lib.hid b0
  have HIs := Lib.hid (h.below b0)
  have HMd := Lib.hid (made_is (h.below b0).ptr)
  have HKx0 := Lib.hid k0
  have HE := Lib.hid (And.intro e1 (And.intro e2 e3))
  have HOk := Lib.hid hok
  have HI := Lib.hid hi
  have HIn := Lib.hid hx
  have HRt := Lib.hid (fun W => right_is x.val.node W hx.node)
  have HNm := Lib.hid (fun W => right_any x.val.id W hx.id)
  have HNs := Lib.hid (fun W => right_any x.val.svc W hx.svc)
  have HSh := Lib.hid (fun W => short_is x.val.note W hx.note)
  have hs1 := hx.status
  unfold ckV
  clear h e1 e2 e3 hok hi hX hw1 b0 k0 hx
  cases hb : nodeB x.val.node with
  | false =>
    have hd : d.check x.val i = (2, d) := chk_bad (by
      unfold Ro.wrongC
      rw [if_pos (.inl hb)]) (by decide)
    rw [hd]
    clear hd
    rw [hb] at HRt
    clear hb
    go_enter Tryz.func20, Tryz.ntmps20
    go_wp2_with fail
    rw [HW1.out, HX0.out]
    refine HMd.out.mono ?_
    rintro e W0 ⟨rfl, hb⟩
    have HB := Lib.hid hb
    have hkx := (hb.block X (block_lt HKx0.out)).trans HKx0.out
    have dx := ck_blk hkx
    have lx := block_lt hkx
    clear hb
    go_wp2_with fail
    refine (HRt.out _).mono ?_
    rintro e w2 ⟨rfl, rfl⟩
    go_wp2
    go_ret
    exact ⟨rfl, HAt.out.wide (HB1.out.trans (HB.out.mono HB1.out.size)), But.of_below (HB1.out.trans (HB.out.mono HB1.out.size))⟩
  | true =>
    rw [hb] at HRt
    by_cases hs2 : x.val.status < 0
    · have hw := hs2
      have hd : d.check x.val i = (2, d) := chk_bad (by
        unfold Ro.wrongC
        rw [if_pos (.inr (.inl hs2))]) (by decide)
      rw [hd]
      clear hd
      clear hb hw
      go_enter Tryz.func20, Tryz.ntmps20
      go_wp2_with fail
      rw [HW1.out, HX0.out]
      refine HMd.out.mono ?_
      rintro e W0 ⟨rfl, hb⟩
      have HB := Lib.hid hb
      have hkx := (hb.block X (block_lt HKx0.out)).trans HKx0.out
      have dx := ck_blk hkx
      have lx := block_lt hkx
      clear hb
      go_wp2_with fail
      refine (HRt.out _).mono ?_
      rintro e w2 ⟨rfl, rfl⟩
      go_wp2
      go_ret
      exact ⟨rfl, HAt.out.wide (HB1.out.trans (HB.out.mono HB1.out.size)), But.of_below (HB1.out.trans (HB.out.mono HB1.out.size))⟩
    · by_cases hs3 : 3 < x.val.status
      · have hw := hs3
        have hd : d.check x.val i = (2, d) := chk_bad (by
          unfold Ro.wrongC
          rw [if_pos (.inr (.inr hs3))]) (by decide)
        rw [hd]
        clear hd
        clear hb hw
        go_enter Tryz.func20, Tryz.ntmps20
        go_wp2_with fail
        rw [HW1.out, HX0.out]
        refine HMd.out.mono ?_
        rintro e W0 ⟨rfl, hb⟩
        have HB := Lib.hid hb
        have hkx := (hb.block X (block_lt HKx0.out)).trans HKx0.out
        have dx := ck_blk hkx
        have lx := block_lt hkx
        clear hb
        go_wp2_with fail
        refine (HRt.out _).mono ?_
        rintro e w2 ⟨rfl, rfl⟩
        go_wp2
        go_ret
        exact ⟨rfl, HAt.out.wide (HB1.out.trans (HB.out.mono HB1.out.size)), But.of_below (HB1.out.trans (HB.out.mono HB1.out.size))⟩
      · have ds2 : decide (x.val.status < 0) = false := decide_eq_false hs2
        have ds3 : decide (3 < x.val.status) = false := decide_eq_false hs3
        have h1 : ¬ (nodeB x.val.node = false ∨ x.val.status < 0 ∨ 3 < x.val.status) := by rw [hb]; simp; omega
        cases hid : rightB x.val.id.data.toList with
        | false =>
          have hd : d.check x.val i = (10, d) := chk_bad (by
            unfold Ro.wrongC
            rw [if_neg h1, if_pos (.inl hid)]) (by decide)
          rw [hd]
          clear hd
          rw [hid] at HNm
          clear hb h1 hid
          go_enter Tryz.func20, Tryz.ntmps20
          go_wp2_with fail
          rw [HW1.out, HX0.out]
          refine HMd.out.mono ?_
          rintro e W0 ⟨rfl, hb⟩
          have HB := Lib.hid hb
          have hkx := (hb.block X (block_lt HKx0.out)).trans HKx0.out
          have dx := ck_blk hkx
          have lx := block_lt hkx
          clear hb
          go_wp2_with fail
          refine (HRt.out _).mono ?_
          rintro e w2 ⟨rfl, rfl⟩
          go_wp2_with fail
          refine (HNm.out _).mono ?_
          rintro e w2 ⟨rfl, rfl⟩
          go_wp2
          go_ret
          exact ⟨rfl, HAt.out.wide (HB1.out.trans (HB.out.mono HB1.out.size)), But.of_below (HB1.out.trans (HB.out.mono HB1.out.size))⟩
        | true =>
          have hidl := right_sz hid
          rw [hid] at HNm
          cases hq : (x.val.svc.toList == noT.toList) with
          | true =>
            have hse : x.val.svc = noT := text_same.1 hq
            have hqe : x.val.svc.toList = [] := by rw [hse]; exact noT_list
            have h2 : ¬ (rightB x.val.id.data.toList = false ∨ (x.val.svc ≠ noT ∧ rightB x.val.svc.data.toList = false)) := by rw [hid]; simp [hse]
            by_cases hl : x.val.note.size ≤ 32
            case neg =>
              have hd : d.check x.val i = (3, d) := chk_bad (by
                unfold Ro.wrongC
                rw [if_neg h1, if_neg h2, if_pos (by omega)]) (by decide)
              rw [hd]
              clear hd
              rw [decide_eq_false hl] at HSh
              clear hb h1 h2 hid hl hse
              go_enter Tryz.func20, Tryz.ntmps20
              go_wp2_with fail
              rw [HW1.out, HX0.out]
              refine HMd.out.mono ?_
              rintro e W0 ⟨rfl, hb⟩
              have HB := Lib.hid hb
              have hkx := (hb.block X (block_lt HKx0.out)).trans HKx0.out
              have dx := ck_blk hkx
              have lx := block_lt hkx
              clear hb
              go_wp2_with fail
              refine (HRt.out _).mono ?_
              rintro e w2 ⟨rfl, rfl⟩
              go_wp2_with fail
              refine (HNm.out _).mono ?_
              rintro e w2 ⟨rfl, rfl⟩
              go_wp2_with fail
              refine (HSh.out _).mono ?_
              rintro e w2 ⟨rfl, rfl⟩
              go_wp2
              go_ret
              exact ⟨rfl, HAt.out.wide (HB1.out.trans (HB.out.mono HB1.out.size)), But.of_below (HB1.out.trans (HB.out.mono HB1.out.size))⟩
            case pos =>
              rw [decide_eq_true hl] at HSh
              have h3 : ¬ 32 < x.val.note.size := by omega
              obtain ⟨k0, hk0⟩ : ∃ k0, keyO x.val.node noT = k0 := ⟨_, rfl⟩
              have HSv : Hid (x.val.svc.toList = []) := Lib.hid hqe
              cases hth : d.there x.val.node with
              | false =>
                have hd : d.check x.val i = (4, d) := chk_bad (by
                  unfold Ro.wrongC
                  rw [if_neg h1, if_neg h2, if_neg h3, if_pos (.inl hth)]) (by decide)
                rw [hd]
                clear hd
                have HTh : Hid ((getR T1.l k0).isSome = false) := Lib.hid (by rw [← has_map (fun v : NdW => v.a) T1]; show (getR (nA T1).l k0).isSome = _; rw [HE.out.1, ← hk0]; exact hth)
                have HHk0 := Lib.hid hk0
                clear hb h1 h2 h3 hid hl hse hth hk0
                go_enter Tryz.func20, Tryz.ntmps20
                go_wp2_with fail
                rw [HW1.out, HX0.out]
                refine HMd.out.mono ?_
                rintro e W0 ⟨rfl, hb⟩
                have HB := Lib.hid hb
                have hkx := (hb.block X (block_lt HKx0.out)).trans HKx0.out
                have dx := ck_blk hkx
                have lx := block_lt hkx
                clear hb
                go_wp2_with fail
                refine (HRt.out _).mono ?_
                rintro e w2 ⟨rfl, rfl⟩
                go_wp2_with fail
                refine (HNm.out _).mono ?_
                rintro e w2 ⟨rfl, rfl⟩
                go_wp2_with fail
                refine (HSh.out _).mono ?_
                rintro e w2 ⟨rfl, rfl⟩
                have hA := HIs.out.below HB.out
                have HA := Lib.hid hA
                have HKb := Lib.hid hA.ptr
                have HLb := Lib.hid hA.lt
                have HKx := Lib.hid hkx
                have HLx := Lib.hid lx
                have HK0 := Lib.hid (fun W (hW : Below W0.heap.size W0 W) => (by
                  have := rkey_any x.val.node noT W HIn.out.node (by decide) (hA.pw.below hW)
                  rw [HHk0.out] at this
                  exact this : Calls Tryz.prog 52 #[.int .i64 x.val.node, .string noT] W fun e w' => e = .returned (.string k0) ∧ Below W.heap.size W w'))
                have HH0 := Lib.hid (fun W (hW : Below W0.heap.size W0 W) => (by
                  have := hasNode_any k0 (hA.t1.below hW)
                  rw [HTh.out] at this
                  exact this : Calls Tryz.prog 59 #[.pointer (some ⟨B1, 0, none⟩), .string k0] W fun e w' => e = .returned (.bool false) ∧ Below W.heap.size W w'))
                clear hA hkx dx lx HMd HRt HNm HNs HSh HIs
                go_wp2_with fail
                have hre : ∀ w : World, ((fun a b : World => Below a.heap.size a b)) w w := (fun w => Below.refl _ w)
                have hrd : ∀ (f : Nat → Bool) w i, i ≠ 5 → (fun (_ : Nat → Bool) (w : World) => Below W0.heap.size W0 w) f w → (fun (_ : Nat → Bool) (w : World) => Below W0.heap.size W0 w) (Go.Rel.upd f i) w := (fun _ _ _ _ h => h)
                refine Go.Rel.wp_tab (by kernel_rfl) (by kernel_rfl) (fun (_ : Nat → Bool) (w : World) => Below W0.heap.size W0 w) ((fun a b : World => Below a.heap.size a b)) hre ((fun _ _ _ h k => h.trans (k.mono h.size))) ((⟨rfl, rfl, rfl, Nat.le_refl _, fun _ _ => rfl⟩)) ⟨rfl, rfl, rfl, Nat.le_refl _, fun _ _ => rfl⟩ (rckNE B B1 B2 X x k0) (fun _ _ _ => True) (fun i => ([] : List Nat).contains i) (fun i => ([3, 5, 6] : List Nat).contains i) (by kernel_rfl) (fun _ _ _ _ h _ => h) 5 rfl hrd ?_ (Go.Rel.AllOf.get ?_) ?_
                · iterate 3 refine .cons (Go.Rel.pure_yes (by kernel_rfl) (fun _ => by kernel_rfl)) ?_
                  iterate 1 refine .cons (Go.Rel.pure_sp rfl) ?_
                  iterate 1 refine .cons (Go.Rel.pure_yes (by kernel_rfl) (fun _ => by kernel_rfl)) ?_
                  iterate 2 refine .cons (Go.Rel.pure_sp rfl) ?_
                  iterate 2 refine .cons (Go.Rel.pure_yes (by kernel_rfl) (fun _ => by kernel_rfl)) ?_
                  iterate 15 refine .cons (Go.Rel.pure_no (by kernel_rfl) rfl) ?_
                  iterate 2 refine .cons (Go.Rel.pure_yes (by kernel_rfl) (fun _ => by kernel_rfl)) ?_
                  exact .nil
                · refine ⟨?_, ?_, ?_, trivial⟩
                  · exact SpecOk.ld hrd hre (q := .pointer (some ⟨B, 0, none⟩)) (h := fun _ w' hI _ _ _ _ => by have cb := ro_ptrs ((hI.block B HLb.out).trans HKb.out); go_simp; rfl)
                  · refine SpecOk.gen (fun e => [(56, .func (.func 52) #[.int .i64 x.val.node] #[])]) rfl rfl (fun _ => by kernel_rfl) fun f w' e hI hf hdesc hanc hle hX K hK => ?_
                    go_simp
                    refine (HK0.out w' hI).mono ?_
                    rintro e w2 ⟨rfl, hb9⟩
                    exact hK _ _ hb9 (hI.trans (hb9.mono hI.size)) rfl
                  · refine SpecOk.call 59 #[.pointer (some ⟨B1, 0, none⟩), .string k0] rfl (by kernel_rfl) (fun _ => by kernel_rfl) fun _ w' hI _ _ _ _ => ?_
                    refine (HH0.out w' hI).mono ?_
                    rintro e w2 ⟨rfl, hb9⟩
                    exact ⟨_, rfl, hb9, (hI.trans (hb9.mono hI.size)), rfl⟩
                · intro f W2 e hall hJ hle hv
                  have v9 := hv 25 rfl
                  simp only [Go.Rel.finL, List.setIfInBounds_toArray, List.set_cons_succ, List.set_cons_zero]
                  rw [show e 25 = .bool true from v9]
                  have HJ : Hid (Below w.heap.size w W2) := Lib.hid (HB1.out.trans ((HB.out.trans (hJ.mono HB.out.size)).mono HB1.out.size))
                  have HJ0 := Lib.hid hJ
                  clear hv hall hle hJ v9
                  go_wp2
                  go_ret
                  exact ⟨rfl, HAt.out.wide HJ.out, But.of_below HJ.out⟩
              | true =>
                have h4 : ¬ (d.there x.val.node = false ∨ (x.val.svc ≠ noT ∧ d.has x.val.node x.val.svc = false)) := by rw [hth]; simp [hse]
                have HTh : Hid ((getR T1.l k0).isSome = true) := Lib.hid (by rw [← has_map (fun v : NdW => v.a) T1]; show (getR (nA T1).l k0).isSome = _; rw [HE.out.1, ← hk0]; exact hth)
                have HHk0 := Lib.hid hk0
                have HIl := Lib.hid hidl
                have hw : d.wrongC x.val = 0 := by
                  unfold Ro.wrongC
                  rw [if_neg h1, if_neg h2, if_neg h3, if_neg h4]
                have hok1 := wrongC_ok.1 hw
                obtain ⟨k, hk⟩ : ∃ k, keyO x.val.node x.val.id = k := ⟨_, rfl⟩
                have hks : k.size ≤ maxLen := by rw [← hk]; exact hok1.1.key
                obtain ⟨er, her⟩ : ∃ er, layE T3 k = er := ⟨_, rfl⟩
                obtain ⟨T3', hT3⟩ : ∃ T3', T3.putT k ⟨x.val, x.made, x.ix⟩ i = T3' := ⟨_, rfl⟩
                have hd : d.check x.val i = (er, { d with c := cA T3' }) := by
                  unfold Ro.check CkA.key
                  rw [hw, if_neg (by simp), ← HE.out.2.2, hk, layE_map, her, ← hT3, put_cA]
                have hok2 := HOk.out.check (x := x.val) HI.out
                rw [hd] at hok2 ⊢
                have HOk2 := Lib.hid hok2
                have HKs := Lib.hid hks
                have HHk := Lib.hid hk
                have HEr := Lib.hid her
                have HT3 := Lib.hid hT3
                clear hw hok1 hk hks her hT3 hd hok2
                clear hb h1 h2 h3 h4 hid hl hse hth hk0 hidl
                go_enter Tryz.func20, Tryz.ntmps20
                go_wp2_with fail
                rw [HW1.out, HX0.out]
                refine HMd.out.mono ?_
                rintro e W0 ⟨rfl, hb⟩
                have HB := Lib.hid hb
                have hkx := (hb.block X (block_lt HKx0.out)).trans HKx0.out
                have dx := ck_blk hkx
                have lx := block_lt hkx
                clear hb
                go_wp2_with fail
                refine (HRt.out _).mono ?_
                rintro e w2 ⟨rfl, rfl⟩
                go_wp2_with fail
                refine (HNm.out _).mono ?_
                rintro e w2 ⟨rfl, rfl⟩
                go_wp2_with fail
                refine (HSh.out _).mono ?_
                rintro e w2 ⟨rfl, rfl⟩
                have hA := HIs.out.below HB.out
                have HA := Lib.hid hA
                have HKb := Lib.hid hA.ptr
                have HLb := Lib.hid hA.lt
                have HKx := Lib.hid hkx
                have HLx := Lib.hid lx
                have HK0 := Lib.hid (fun W (hW : Below W0.heap.size W0 W) => (by
                  have := rkey_any x.val.node noT W HIn.out.node (by decide) (hA.pw.below hW)
                  rw [HHk0.out] at this
                  exact this : Calls Tryz.prog 52 #[.int .i64 x.val.node, .string noT] W fun e w' => e = .returned (.string k0) ∧ Below W.heap.size W w'))
                have HH0 := Lib.hid (fun W (hW : Below W0.heap.size W0 W) => (by
                  have := hasNode_any k0 (hA.t1.below hW)
                  rw [HTh.out] at this
                  exact this : Calls Tryz.prog 59 #[.pointer (some ⟨B1, 0, none⟩), .string k0] W fun e w' => e = .returned (.bool true) ∧ Below W.heap.size W w'))
                clear hA hkx dx lx HMd HRt HNm HNs HSh HIs
                go_wp2_with fail
                have hre : ∀ w : World, ((fun a b : World => Below a.heap.size a b)) w w := (fun w => Below.refl _ w)
                have hrd : ∀ (f : Nat → Bool) w i, i ≠ 5 → (fun (_ : Nat → Bool) (w : World) => Below W0.heap.size W0 w) f w → (fun (_ : Nat → Bool) (w : World) => Below W0.heap.size W0 w) (Go.Rel.upd f i) w := (fun _ _ _ _ h => h)
                refine Go.Rel.wp_tab (by kernel_rfl) (by kernel_rfl) (fun (_ : Nat → Bool) (w : World) => Below W0.heap.size W0 w) ((fun a b : World => Below a.heap.size a b)) hre ((fun _ _ _ h k => h.trans (k.mono h.size))) ((⟨rfl, rfl, rfl, Nat.le_refl _, fun _ _ => rfl⟩)) ⟨rfl, rfl, rfl, Nat.le_refl _, fun _ _ => rfl⟩ (rckME B B1 B2 X x k0) (fun _ _ _ => True) (fun i => ([] : List Nat).contains i) (fun i => ([3, 5, 6, 10, 11] : List Nat).contains i) (by kernel_rfl) (fun _ _ _ _ h _ => h) 5 rfl hrd ?_ (Go.Rel.AllOf.get ?_) ?_
                · iterate 3 refine .cons (Go.Rel.pure_yes (by kernel_rfl) (fun _ => by kernel_rfl)) ?_
                  iterate 1 refine .cons (Go.Rel.pure_sp rfl) ?_
                  iterate 1 refine .cons (Go.Rel.pure_yes (by kernel_rfl) (fun _ => by kernel_rfl)) ?_
                  iterate 2 refine .cons (Go.Rel.pure_sp rfl) ?_
                  iterate 3 refine .cons (Go.Rel.pure_yes (by kernel_rfl) (fun _ => by kernel_rfl)) ?_
                  iterate 2 refine .cons (Go.Rel.pure_sp rfl) ?_
                  iterate 1 refine .cons (Go.Rel.pure_yes (by kernel_rfl) (fun _ => by kernel_rfl)) ?_
                  iterate 10 refine .cons (Go.Rel.pure_no (by kernel_rfl) rfl) ?_
                  iterate 3 refine .cons (Go.Rel.pure_yes (by kernel_rfl) (fun _ => by kernel_rfl)) ?_
                  exact .nil
                · refine ⟨?_, ?_, ?_, ?_, ?_, trivial⟩
                  · exact SpecOk.ld hrd hre (q := .pointer (some ⟨B, 0, none⟩)) (h := fun _ w' hI _ _ _ _ => by have cb := ro_ptrs ((hI.block B HLb.out).trans HKb.out); go_simp; rfl)
                  · refine SpecOk.gen (fun e => [(56, .func (.func 52) #[.int .i64 x.val.node] #[])]) rfl rfl (fun _ => by kernel_rfl) fun f w' e hI hf hdesc hanc hle hX K hK => ?_
                    go_simp
                    refine (HK0.out w' hI).mono ?_
                    rintro e w2 ⟨rfl, hb9⟩
                    exact hK _ _ hb9 (hI.trans (hb9.mono hI.size)) rfl
                  · refine SpecOk.call 59 #[.pointer (some ⟨B1, 0, none⟩), .string k0] rfl (by kernel_rfl) (fun _ => by kernel_rfl) fun _ w' hI _ _ _ _ => ?_
                    refine (HH0.out w' hI).mono ?_
                    rintro e w2 ⟨rfl, hb9⟩
                    exact ⟨_, rfl, hb9, (hI.trans (hb9.mono hI.size)), rfl⟩
                  · exact SpecOk.ld hrd hre (q := .pointer (some ⟨X, 2, none⟩)) (h := fun _ w' hI _ _ _ _ => by have cc := ck_blk ((hI.block X HLx.out).trans HKx.out); go_simp; rfl)
                  · refine SpecOk.gen (fun e => [(62, .string x.val.svc)]) rfl rfl (fun _ => by kernel_rfl) fun f w' e hI hf hdesc hanc hle hX K hK => ?_
                    have hs := HSv.out
                    go_simp
                    exact hK _ _ (hre _) (hrd f w' 11 (by decide) hI) rfl
                · intro f W2 e hall hJ hle hv
                  have v9 := hv 25 rfl
                  simp only [Go.Rel.finL, List.setIfInBounds_toArray, List.set_cons_succ, List.set_cons_zero]
                  rw [show e 25 = .bool false from v9]
                  have HJ : Hid (Below w.heap.size w W2) := Lib.hid (HB1.out.trans ((HB.out.trans (hJ.mono HB.out.size)).mono HB1.out.size))
                  have HJ0 := Lib.hid hJ
                  clear hv hall hle hJ v9
                  have hA := (HA.out.below HJ0.out)
                  have HA := Lib.hid hA
                  have HKb := Lib.hid hA.ptr
                  have HLb := Lib.hid hA.lt
                  have hkx := (HJ0.out.block X HLx.out).trans HKx.out
                  have HKx := Lib.hid hkx
                  have HLx := Lib.hid (block_lt hkx)
                  have HM3 : Hid (∀ k, k = B3 → k < W2.heap.size) := Lib.hid fun k e => by rw [e]; exact hA.lts.2.2
                  have HOf := Lib.hid ofCheck_any
                  have HRw := Lib.hid (fun W (hW : Below W2.heap.size W2 W) => (by
                    have := rowCheck_any x W HIn.out.node HIl.out (hA.pw.below hW)
                    unfold ckV Ct.trV CkA.key at this
                    rw [HHk.out] at this
                    exact this : Calls Tryz.prog 97 #[.agg #[.int .i64 x.val.node, .string x.val.id, .string x.val.svc, .string x.val.note, .int .i64 x.val.status, .int .u64 (x.made : Int), .int .u64 (x.ix : Int)]] W fun e w' => e = .returned (.agg #[.string k, .int .i64 x.val.node, .string x.val.id, .string x.val.svc, .string x.val.note, .int .i64 x.val.status, .int .u64 (x.made : Int), .int .u64 (x.ix : Int), .int .u64 (x.made : Int), .int .u64 (x.ix : Int)]) ∧ Below W.heap.size W w'))
                  have HLay := Lib.hid (fun W (hW : Below W2.heap.size W2 W) => (by
                    have := layCheck_any ⟨k, ⟨x.val, x.made, x.ix⟩, x.made, x.ix⟩ i (hA.t3.below hW) HI.out HKs.out
                    unfold Ct.trV at this
                    rw [HEr.out, HT3.out] at this
                    exact this : Calls Tryz.prog 61 #[.pointer (some ⟨B3, 0, none⟩), .agg #[.string k, .int .i64 x.val.node, .string x.val.id, .string x.val.svc, .string x.val.note, .int .i64 x.val.status, .int .u64 (x.made : Int), .int .u64 (x.ix : Int), .int .u64 (x.made : Int), .int .u64 (x.ix : Int)], .int .u64 (i : Int)] W fun e w' => e = .returned (.int .i64 (er : Int)) ∧ Ct.TAt (fun k => Sub S B B1 B2 k ∨ W.heap.size ≤ k) w' B3 T3' ∧ But (· = B3) W w'))
                  clear hA hkx HK0 HH0
                  go_wp2_with fail
                  have hre : ∀ w : World, (But (OldB W2)) w w := (fun w => But.refl _ w)
                  have hrd : ∀ (f : Nat → Bool) w i, i ≠ 9 → (TI 9 W2 (fun w => Ct.TAt (fun k => Sub S B B1 B2 k ∨ W2.heap.size ≤ k) w B3 T3' ∧ But (· = B3) W2 w)) f w → (TI 9 W2 (fun w => Ct.TAt (fun k => Sub S B B1 B2 k ∨ W2.heap.size ≤ k) w B3 T3' ∧ But (· = B3) W2 w)) (Go.Rel.upd f i) w := (fun _ _ _ hi h => h.read hi)
                  refine Go.Rel.wp_tab (by kernel_rfl) (by kernel_rfl) (TI 9 W2 (fun w => Ct.TAt (fun k => Sub S B B1 B2 k ∨ W2.heap.size ≤ k) w B3 T3' ∧ But (· = B3) W2 w)) (But (OldB W2)) hre ((fun _ _ _ h k => h.trans k)) (OldB.drew) TI.start (rclE B B3 X x i k er) (fun _ _ _ => True) (fun i => ([] : List Nat).contains i) (fun i => ([3, 4, 6, 7, 9] : List Nat).contains i) (by kernel_rfl) (fun _ _ _ _ h _ => h) 9 rfl hrd ?_ (Go.Rel.AllOf.get ?_) ?_
                  · repeat (refine .cons (by first | exact Go.Rel.pure_sp rfl | exact Go.Rel.pure_yes (by kernel_rfl) (fun _ => by kernel_rfl) | exact Go.Rel.pure_no (by kernel_rfl) rfl) ?_)
                    exact .nil
                  · refine ⟨?_, ?_, ?_, ?_, ?_, trivial⟩
                    · exact SpecOk.ld hrd hre (q := .pointer (some ⟨B, 2, none⟩)) (h := fun _ w' hI _ hdesc _ _ => by have cb := ro_ptrs (((hI.ahead (hdesc 60 9 (by kernel_rfl))).block B HLb.out).trans HKb.out); go_simp; rfl)
                    · refine SpecOk.gen (fun e => []) rfl rfl (fun _ => by kernel_rfl) fun f w' e hI hf hdesc hanc hle hX K hK => ?_
                      go_simp
                      have zL : f 9 = false := hdesc 60 9 (by kernel_rfl)
                      refine (HOf.out w').mono ?_
                      rintro e w2 ⟨rfl, hb9⟩
                      exact hK _ _ (But.of_below hb9) (hI.below zL hb9 (by decide)) rfl
                    · exact SpecOk.ld hrd hre (q := .pointer (some ⟨X, 0, none⟩)) (h := fun _ w' hI _ hdesc _ _ => by have cc := ck_blk (((hI.ahead (hdesc 60 9 (by kernel_rfl))).block X HLx.out).trans HKx.out); go_simp; rfl)
                    · refine SpecOk.gen (fun e => [(82, .func (.func 97) #[] #[]), (83, .agg #[.int .i64 x.val.node, .string x.val.id, .string x.val.svc, .string x.val.note, .int .i64 x.val.status, .int .u64 (x.made : Int), .int .u64 (x.ix : Int)])]) rfl rfl (fun _ => by kernel_rfl) fun f w' e hI hf hdesc hanc hle hX K hK => ?_
                      go_simp
                      have zL : f 9 = false := hdesc 60 9 (by kernel_rfl)
                      refine (HRw.out w' (hI.ahead zL)).mono ?_
                      rintro e w2 ⟨rfl, hb9⟩
                      exact hK _ _ (But.of_below hb9) (hI.below zL hb9 (by decide)) rfl
                    · refine SpecOk.call 61 #[.pointer (some ⟨B3, 0, none⟩), .agg #[.string k, .int .i64 x.val.node, .string x.val.id, .string x.val.svc, .string x.val.note, .int .i64 x.val.status, .int .u64 (x.made : Int), .int .u64 (x.ix : Int), .int .u64 (x.made : Int), .int .u64 (x.ix : Int)], .int .u64 (i : Int)] rfl (by kernel_rfl) (fun _ => by kernel_rfl) fun _ w' hI hf _ _ _ => ?_
                      refine (HLay.out w' (hI.ahead hf)).mono ?_
                      rintro e9 w9 ⟨rfl, h9, hb9⟩
                      exact ⟨_, rfl, (But.oldB hb9 HM3.out), (TI.last ⟨h9.narrow fun k _ z => z.imp (fun z => z) fun z => Nat.le_trans (hI.ahead hf).size z, (But.of_below (hI.ahead hf)).trans hb9⟩), rfl⟩
                  · intro f w3 e hall hJ hle hv
                    have HJ2 := Lib.hid (hJ.done_ (hall 9 (by decide)))
                    have v9 := hv 10 rfl
                    simp only [Go.Rel.finL, List.setIfInBounds_toArray, List.set_cons_succ, List.set_cons_zero]
                    rw [show e 10 = .int .i64 (er : Int) from v9]
                    clear hv hall hle hJ v9
                    go_wp2
                    go_ret
                    exact ⟨rfl, ⟨HOk2.out, _, _, _, (HA.out.turn3 HJ2.out.1 HJ2.out.2).narrow fun k _ z => z.imp (fun z => z) (Nat.le_trans HJ.out.size), HE.out.1, HE.out.2.1, rfl⟩, (But.of_below HJ.out).trans (but3 HJ2.out.2)⟩
          | false =>
            have hse : x.val.svc ≠ noT := text_other.1 hq
            have hqe : ¬ x.val.svc.toList = [] := fun e => hse (text_same.1 (by rw [e, noT_list]; rfl))
            have hqi : x.val.svc.toList.isEmpty = false := by rw [Bool.eq_false_iff]; exact fun e => hqe (by simpa using e)
            cases hsv : rightB x.val.svc.data.toList with
            | false =>
              have hd : d.check x.val i = (10, d) := chk_bad (by
                unfold Ro.wrongC
                rw [if_neg h1, if_pos (.inr ⟨hse, hsv⟩)]) (by decide)
              rw [hd]
              clear hd
              rw [hsv] at HNs
              clear hb h1 hid hsv hse
              go_enter Tryz.func20, Tryz.ntmps20
              go_wp2_with fail
              rw [HW1.out, HX0.out]
              refine HMd.out.mono ?_
              rintro e W0 ⟨rfl, hb⟩
              have HB := Lib.hid hb
              have hkx := (hb.block X (block_lt HKx0.out)).trans HKx0.out
              have dx := ck_blk hkx
              have lx := block_lt hkx
              clear hb
              go_wp2_with fail
              refine (HRt.out _).mono ?_
              rintro e w2 ⟨rfl, rfl⟩
              go_wp2_with fail
              refine (HNm.out _).mono ?_
              rintro e w2 ⟨rfl, rfl⟩
              go_wp2_with fail
              refine (HNs.out _).mono ?_
              rintro e w2 ⟨rfl, rfl⟩
              go_wp2
              go_ret
              exact ⟨rfl, HAt.out.wide (HB1.out.trans (HB.out.mono HB1.out.size)), But.of_below (HB1.out.trans (HB.out.mono HB1.out.size))⟩
            | true =>
              have hsvl := right_sz hsv
              rw [hsv] at HNs
              have h2 : ¬ (rightB x.val.id.data.toList = false ∨ (x.val.svc ≠ noT ∧ rightB x.val.svc.data.toList = false)) := by rw [hid, hsv]; simp
              by_cases hl : x.val.note.size ≤ 32
              case neg =>
                have hd : d.check x.val i = (3, d) := chk_bad (by
                  unfold Ro.wrongC
                  rw [if_neg h1, if_neg h2, if_pos (by omega)]) (by decide)
                rw [hd]
                clear hd
                rw [decide_eq_false hl] at HSh
                clear hb h1 h2 hid hl hse hsv
                go_enter Tryz.func20, Tryz.ntmps20
                go_wp2_with fail
                rw [HW1.out, HX0.out]
                refine HMd.out.mono ?_
                rintro e W0 ⟨rfl, hb⟩
                have HB := Lib.hid hb
                have hkx := (hb.block X (block_lt HKx0.out)).trans HKx0.out
                have dx := ck_blk hkx
                have lx := block_lt hkx
                clear hb
                go_wp2_with fail
                refine (HRt.out _).mono ?_
                rintro e w2 ⟨rfl, rfl⟩
                go_wp2_with fail
                refine (HNm.out _).mono ?_
                rintro e w2 ⟨rfl, rfl⟩
                go_wp2_with fail
                refine (HNs.out _).mono ?_
                rintro e w2 ⟨rfl, rfl⟩
                go_wp2_with fail
                refine (HSh.out _).mono ?_
                rintro e w2 ⟨rfl, rfl⟩
                go_wp2
                go_ret
                exact ⟨rfl, HAt.out.wide (HB1.out.trans (HB.out.mono HB1.out.size)), But.of_below (HB1.out.trans (HB.out.mono HB1.out.size))⟩
              case pos =>
                rw [decide_eq_true hl] at HSh
                have h3 : ¬ 32 < x.val.note.size := by omega
                obtain ⟨k0, hk0⟩ : ∃ k0, keyO x.val.node noT = k0 := ⟨_, rfl⟩
                have HSv : Hid (¬ x.val.svc.toList = [] ∧ x.val.svc.toList.isEmpty = false) := Lib.hid ⟨hqe, hqi⟩
                cases hth : d.there x.val.node with
                | false =>
                  have hd : d.check x.val i = (4, d) := chk_bad (by
                    unfold Ro.wrongC
                    rw [if_neg h1, if_neg h2, if_neg h3, if_pos (.inl hth)]) (by decide)
                  rw [hd]
                  clear hd
                  have HTh : Hid ((getR T1.l k0).isSome = false) := Lib.hid (by rw [← has_map (fun v : NdW => v.a) T1]; show (getR (nA T1).l k0).isSome = _; rw [HE.out.1, ← hk0]; exact hth)
                  have HHk0 := Lib.hid hk0
                  clear hb h1 h2 h3 hid hl hse hth hk0 hsv
                  go_enter Tryz.func20, Tryz.ntmps20
                  go_wp2_with fail
                  rw [HW1.out, HX0.out]
                  refine HMd.out.mono ?_
                  rintro e W0 ⟨rfl, hb⟩
                  have HB := Lib.hid hb
                  have hkx := (hb.block X (block_lt HKx0.out)).trans HKx0.out
                  have dx := ck_blk hkx
                  have lx := block_lt hkx
                  clear hb
                  go_wp2_with fail
                  refine (HRt.out _).mono ?_
                  rintro e w2 ⟨rfl, rfl⟩
                  go_wp2_with fail
                  refine (HNm.out _).mono ?_
                  rintro e w2 ⟨rfl, rfl⟩
                  go_wp2_with fail
                  refine (HNs.out _).mono ?_
                  rintro e w2 ⟨rfl, rfl⟩
                  go_wp2_with fail
                  refine (HSh.out _).mono ?_
                  rintro e w2 ⟨rfl, rfl⟩
                  have hA := HIs.out.below HB.out
                  have HA := Lib.hid hA
                  have HKb := Lib.hid hA.ptr
                  have HLb := Lib.hid hA.lt
                  have HKx := Lib.hid hkx
                  have HLx := Lib.hid lx
                  have HK0 := Lib.hid (fun W (hW : Below W0.heap.size W0 W) => (by
                    have := rkey_any x.val.node noT W HIn.out.node (by decide) (hA.pw.below hW)
                    rw [HHk0.out] at this
                    exact this : Calls Tryz.prog 52 #[.int .i64 x.val.node, .string noT] W fun e w' => e = .returned (.string k0) ∧ Below W.heap.size W w'))
                  have HH0 := Lib.hid (fun W (hW : Below W0.heap.size W0 W) => (by
                    have := hasNode_any k0 (hA.t1.below hW)
                    rw [HTh.out] at this
                    exact this : Calls Tryz.prog 59 #[.pointer (some ⟨B1, 0, none⟩), .string k0] W fun e w' => e = .returned (.bool false) ∧ Below W.heap.size W w'))
                  clear hA hkx dx lx HMd HRt HNm HNs HSh HIs
                  go_wp2_with fail
                  have hre : ∀ w : World, ((fun a b : World => Below a.heap.size a b)) w w := (fun w => Below.refl _ w)
                  have hrd : ∀ (f : Nat → Bool) w i, i ≠ 5 → (fun (_ : Nat → Bool) (w : World) => Below W0.heap.size W0 w) f w → (fun (_ : Nat → Bool) (w : World) => Below W0.heap.size W0 w) (Go.Rel.upd f i) w := (fun _ _ _ _ h => h)
                  refine Go.Rel.wp_tab (by kernel_rfl) (by kernel_rfl) (fun (_ : Nat → Bool) (w : World) => Below W0.heap.size W0 w) ((fun a b : World => Below a.heap.size a b)) hre ((fun _ _ _ h k => h.trans (k.mono h.size))) ((⟨rfl, rfl, rfl, Nat.le_refl _, fun _ _ => rfl⟩)) ⟨rfl, rfl, rfl, Nat.le_refl _, fun _ _ => rfl⟩ (rckNE B B1 B2 X x k0) (fun _ _ _ => True) (fun i => ([] : List Nat).contains i) (fun i => ([3, 5, 6] : List Nat).contains i) (by kernel_rfl) (fun _ _ _ _ h _ => h) 5 rfl hrd ?_ (Go.Rel.AllOf.get ?_) ?_
                  · iterate 3 refine .cons (Go.Rel.pure_yes (by kernel_rfl) (fun _ => by kernel_rfl)) ?_
                    iterate 1 refine .cons (Go.Rel.pure_sp rfl) ?_
                    iterate 1 refine .cons (Go.Rel.pure_yes (by kernel_rfl) (fun _ => by kernel_rfl)) ?_
                    iterate 2 refine .cons (Go.Rel.pure_sp rfl) ?_
                    iterate 2 refine .cons (Go.Rel.pure_yes (by kernel_rfl) (fun _ => by kernel_rfl)) ?_
                    iterate 15 refine .cons (Go.Rel.pure_no (by kernel_rfl) rfl) ?_
                    iterate 2 refine .cons (Go.Rel.pure_yes (by kernel_rfl) (fun _ => by kernel_rfl)) ?_
                    exact .nil
                  · refine ⟨?_, ?_, ?_, trivial⟩
                    · exact SpecOk.ld hrd hre (q := .pointer (some ⟨B, 0, none⟩)) (h := fun _ w' hI _ _ _ _ => by have cb := ro_ptrs ((hI.block B HLb.out).trans HKb.out); go_simp; rfl)
                    · refine SpecOk.gen (fun e => [(56, .func (.func 52) #[.int .i64 x.val.node] #[])]) rfl rfl (fun _ => by kernel_rfl) fun f w' e hI hf hdesc hanc hle hX K hK => ?_
                      go_simp
                      refine (HK0.out w' hI).mono ?_
                      rintro e w2 ⟨rfl, hb9⟩
                      exact hK _ _ hb9 (hI.trans (hb9.mono hI.size)) rfl
                    · refine SpecOk.call 59 #[.pointer (some ⟨B1, 0, none⟩), .string k0] rfl (by kernel_rfl) (fun _ => by kernel_rfl) fun _ w' hI _ _ _ _ => ?_
                      refine (HH0.out w' hI).mono ?_
                      rintro e w2 ⟨rfl, hb9⟩
                      exact ⟨_, rfl, hb9, (hI.trans (hb9.mono hI.size)), rfl⟩
                  · intro f W2 e hall hJ hle hv
                    have v9 := hv 25 rfl
                    simp only [Go.Rel.finL, List.setIfInBounds_toArray, List.set_cons_succ, List.set_cons_zero]
                    rw [show e 25 = .bool true from v9]
                    have HJ : Hid (Below w.heap.size w W2) := Lib.hid (HB1.out.trans ((HB.out.trans (hJ.mono HB.out.size)).mono HB1.out.size))
                    have HJ0 := Lib.hid hJ
                    clear hv hall hle hJ v9
                    go_wp2
                    go_ret
                    exact ⟨rfl, HAt.out.wide HJ.out, But.of_below HJ.out⟩
                | true =>
                  obtain ⟨k1, hk1⟩ : ∃ k1, keyO x.val.node x.val.svc = k1 := ⟨_, rfl⟩
                  have HHk1 := Lib.hid hk1
                  have HSl := Lib.hid hsvl
                  have HTh : Hid ((getR T1.l k0).isSome = true) := Lib.hid (by rw [← has_map (fun v : NdW => v.a) T1]; show (getR (nA T1).l k0).isSome = _; rw [HE.out.1, ← hk0]; exact hth)
                  have HHk0 := Lib.hid hk0
                  have HIl := Lib.hid hidl
                  cases hha : d.has x.val.node x.val.svc with
                  | false =>
                    have hd : d.check x.val i = (4, d) := chk_bad (by
                      unfold Ro.wrongC
                      rw [if_neg h1, if_neg h2, if_neg h3, if_pos (.inr ⟨hse, hha⟩)]) (by decide)
                    rw [hd]
                    clear hd
                    have HHs : Hid ((getR T2.l k1).isSome = false) := Lib.hid (by rw [← has_map (fun v : SvW => v.a) T2]; show (getR (sA T2).l k1).isSome = _; rw [HE.out.2.1, ← hk1]; exact hha)
                    clear hb h1 h2 h3 hid hl hse hth hk0 hk1 hsv hsvl hha hidl
                    go_enter Tryz.func20, Tryz.ntmps20
                    go_wp2_with fail
                    rw [HW1.out, HX0.out]
                    refine HMd.out.mono ?_
                    rintro e W0 ⟨rfl, hb⟩
                    have HB := Lib.hid hb
                    have hkx := (hb.block X (block_lt HKx0.out)).trans HKx0.out
                    have dx := ck_blk hkx
                    have lx := block_lt hkx
                    clear hb
                    go_wp2_with fail
                    refine (HRt.out _).mono ?_
                    rintro e w2 ⟨rfl, rfl⟩
                    go_wp2_with fail
                    refine (HNm.out _).mono ?_
                    rintro e w2 ⟨rfl, rfl⟩
                    go_wp2_with fail
                    refine (HNs.out _).mono ?_
                    rintro e w2 ⟨rfl, rfl⟩
                    go_wp2_with fail
                    refine (HSh.out _).mono ?_
                    rintro e w2 ⟨rfl, rfl⟩
                    have hA := HIs.out.below HB.out
                    have HA := Lib.hid hA
                    have HKb := Lib.hid hA.ptr
                    have HLb := Lib.hid hA.lt
                    have HKx := Lib.hid hkx
                    have HLx := Lib.hid lx
                    have HK0 := Lib.hid (fun W (hW : Below W0.heap.size W0 W) => (by
                      have := rkey_any x.val.node noT W HIn.out.node (by decide) (hA.pw.below hW)
                      rw [HHk0.out] at this
                      exact this : Calls Tryz.prog 52 #[.int .i64 x.val.node, .string noT] W fun e w' => e = .returned (.string k0) ∧ Below W.heap.size W w'))
                    have HH0 := Lib.hid (fun W (hW : Below W0.heap.size W0 W) => (by
                      have := hasNode_any k0 (hA.t1.below hW)
                      rw [HTh.out] at this
                      exact this : Calls Tryz.prog 59 #[.pointer (some ⟨B1, 0, none⟩), .string k0] W fun e w' => e = .returned (.bool true) ∧ Below W.heap.size W w'))
                    have HK1 := Lib.hid (fun W (hW : Below W0.heap.size W0 W) => (by
                      have := rkey_any x.val.node x.val.svc W HIn.out.node HSl.out (hA.pw.below hW)
                      rw [HHk1.out] at this
                      exact this : Calls Tryz.prog 52 #[.int .i64 x.val.node, .string x.val.svc] W fun e w' => e = .returned (.string k1) ∧ Below W.heap.size W w'))
                    have HH1 := Lib.hid (fun W (hW : Below W0.heap.size W0 W) => (by
                      have := hasService_any k1 (hA.t2.below hW)
                      rw [HHs.out] at this
                      exact this : Calls Tryz.prog 60 #[.pointer (some ⟨B2, 0, none⟩), .string k1] W fun e w' => e = .returned (.bool false) ∧ Below W.heap.size W w'))
                    clear hA hkx dx lx HMd HRt HNm HNs HSh HIs
                    go_wp2_with fail
                    have hre : ∀ w : World, ((fun a b : World => Below a.heap.size a b)) w w := (fun w => Below.refl _ w)
                    have hrd : ∀ (f : Nat → Bool) w i, i ≠ 5 → (fun (_ : Nat → Bool) (w : World) => Below W0.heap.size W0 w) f w → (fun (_ : Nat → Bool) (w : World) => Below W0.heap.size W0 w) (Go.Rel.upd f i) w := (fun _ _ _ _ h => h)
                    refine Go.Rel.wp_tab (by kernel_rfl) (by kernel_rfl) (fun (_ : Nat → Bool) (w : World) => Below W0.heap.size W0 w) ((fun a b : World => Below a.heap.size a b)) hre ((fun _ _ _ h k => h.trans (k.mono h.size))) ((⟨rfl, rfl, rfl, Nat.le_refl _, fun _ _ => rfl⟩)) ⟨rfl, rfl, rfl, Nat.le_refl _, fun _ _ => rfl⟩ (rckSE B B1 B2 X x k0 k1 false) (fun _ _ _ => True) (fun i => ([] : List Nat).contains i) (fun i => ([3, 5, 6, 10, 11, 16, 19, 20, 21] : List Nat).contains i) (by kernel_rfl) (fun _ _ _ _ h _ => h) 5 rfl hrd ?_ (Go.Rel.AllOf.get ?_) ?_
                    · repeat (refine .cons (by first | exact Go.Rel.pure_sp rfl | exact Go.Rel.pure_yes (by kernel_rfl) (fun _ => by kernel_rfl) | exact Go.Rel.pure_no (by kernel_rfl) rfl) ?_)
                      exact .nil
                    · refine ⟨?_, ?_, ?_, ?_, ?_, ?_, ?_, ?_, ?_, trivial⟩
                      · exact SpecOk.ld hrd hre (q := .pointer (some ⟨B, 0, none⟩)) (h := fun _ w' hI _ _ _ _ => by have cb := ro_ptrs ((hI.block B HLb.out).trans HKb.out); go_simp; rfl)
                      · refine SpecOk.gen (fun e => [(56, .func (.func 52) #[.int .i64 x.val.node] #[])]) rfl rfl (fun _ => by kernel_rfl) fun f w' e hI hf hdesc hanc hle hX K hK => ?_
                        go_simp
                        refine (HK0.out w' hI).mono ?_
                        rintro e w2 ⟨rfl, hb9⟩
                        exact hK _ _ hb9 (hI.trans (hb9.mono hI.size)) rfl
                      · refine SpecOk.call 59 #[.pointer (some ⟨B1, 0, none⟩), .string k0] rfl (by kernel_rfl) (fun _ => by kernel_rfl) fun _ w' hI _ _ _ _ => ?_
                        refine (HH0.out w' hI).mono ?_
                        rintro e w2 ⟨rfl, hb9⟩
                        exact ⟨_, rfl, hb9, (hI.trans (hb9.mono hI.size)), rfl⟩
                      · exact SpecOk.ld hrd hre (q := .pointer (some ⟨X, 2, none⟩)) (h := fun _ w' hI _ _ _ _ => by have cc := ck_blk ((hI.block X HLx.out).trans HKx.out); go_simp; rfl)
                      · refine SpecOk.gen (fun e => [(62, .string x.val.svc)]) rfl rfl (fun _ => by kernel_rfl) fun f w' e hI hf hdesc hanc hle hX K hK => ?_
                        have hs := HSv.out
                        go_simp
                        exact hK _ _ (hre _) (hrd f w' 11 (by decide) hI) rfl
                      · exact SpecOk.ld hrd hre (q := .pointer (some ⟨B, 1, none⟩)) (h := fun _ w' hI _ _ _ _ => by have cb := ro_ptrs ((hI.block B HLb.out).trans HKb.out); go_simp; rfl)
                      · exact SpecOk.ld hrd hre (q := .pointer (some ⟨X, 2, none⟩)) (h := fun _ w' hI _ _ _ _ => by have cc := ck_blk ((hI.block X HLx.out).trans HKx.out); go_simp; rfl)
                      · refine SpecOk.gen (fun e => [(69, .func (.func 52) #[.int .i64 x.val.node] #[]), (71, .string x.val.svc)]) rfl rfl (fun _ => by kernel_rfl) fun f w' e hI hf hdesc hanc hle hX K hK => ?_
                        go_simp
                        refine (HK1.out w' hI).mono ?_
                        rintro e w2 ⟨rfl, hb9⟩
                        exact hK _ _ hb9 (hI.trans (hb9.mono hI.size)) rfl
                      · refine SpecOk.call 60 #[.pointer (some ⟨B2, 0, none⟩), .string k1] rfl (by kernel_rfl) (fun _ => by kernel_rfl) fun _ w' hI _ _ _ _ => ?_
                        refine (HH1.out w' hI).mono ?_
                        rintro e w2 ⟨rfl, hb9⟩
                        exact ⟨_, rfl, hb9, (hI.trans (hb9.mono hI.size)), rfl⟩
                    · intro f W2 e hall hJ hle hv
                      have v9 := hv 25 rfl
                      simp only [Go.Rel.finL, List.setIfInBounds_toArray, List.set_cons_succ, List.set_cons_zero]
                      rw [show e 25 = .bool true from v9]
                      have HJ : Hid (Below w.heap.size w W2) := Lib.hid (HB1.out.trans ((HB.out.trans (hJ.mono HB.out.size)).mono HB1.out.size))
                      have HJ0 := Lib.hid hJ
                      clear hv hall hle hJ v9
                      go_wp2
                      go_ret
                      exact ⟨rfl, HAt.out.wide HJ.out, But.of_below HJ.out⟩
                  | true =>
                    have h4 : ¬ (d.there x.val.node = false ∨ (x.val.svc ≠ noT ∧ d.has x.val.node x.val.svc = false)) := by rw [hth, hha]; simp
                    have hw : d.wrongC x.val = 0 := by
                      unfold Ro.wrongC
                      rw [if_neg h1, if_neg h2, if_neg h3, if_neg h4]
                    have hok1 := wrongC_ok.1 hw
                    obtain ⟨k, hk⟩ : ∃ k, keyO x.val.node x.val.id = k := ⟨_, rfl⟩
                    have hks : k.size ≤ maxLen := by rw [← hk]; exact hok1.1.key
                    obtain ⟨er, her⟩ : ∃ er, layE T3 k = er := ⟨_, rfl⟩
                    obtain ⟨T3', hT3⟩ : ∃ T3', T3.putT k ⟨x.val, x.made, x.ix⟩ i = T3' := ⟨_, rfl⟩
                    have hd : d.check x.val i = (er, { d with c := cA T3' }) := by
                      unfold Ro.check CkA.key
                      rw [hw, if_neg (by simp), ← HE.out.2.2, hk, layE_map, her, ← hT3, put_cA]
                    have hok2 := HOk.out.check (x := x.val) HI.out
                    rw [hd] at hok2 ⊢
                    have HOk2 := Lib.hid hok2
                    have HKs := Lib.hid hks
                    have HHk := Lib.hid hk
                    have HEr := Lib.hid her
                    have HT3 := Lib.hid hT3
                    clear hw hok1 hk hks her hT3 hd hok2
                    have HHs : Hid ((getR T2.l k1).isSome = true) := Lib.hid (by rw [← has_map (fun v : SvW => v.a) T2]; show (getR (sA T2).l k1).isSome = _; rw [HE.out.2.1, ← hk1]; exact hha)
                    clear hb h1 h2 h3 h4 hid hl hse hth hk0 hk1 hsv hsvl hha hidl
                    go_enter Tryz.func20, Tryz.ntmps20
                    go_wp2_with fail
                    rw [HW1.out, HX0.out]
                    refine HMd.out.mono ?_
                    rintro e W0 ⟨rfl, hb⟩
                    have HB := Lib.hid hb
                    have hkx := (hb.block X (block_lt HKx0.out)).trans HKx0.out
                    have dx := ck_blk hkx
                    have lx := block_lt hkx
                    clear hb
                    go_wp2_with fail
                    refine (HRt.out _).mono ?_
                    rintro e w2 ⟨rfl, rfl⟩
                    go_wp2_with fail
                    refine (HNm.out _).mono ?_
                    rintro e w2 ⟨rfl, rfl⟩
                    go_wp2_with fail
                    refine (HNs.out _).mono ?_
                    rintro e w2 ⟨rfl, rfl⟩
                    go_wp2_with fail
                    refine (HSh.out _).mono ?_
                    rintro e w2 ⟨rfl, rfl⟩
                    have hA := HIs.out.below HB.out
                    have HA := Lib.hid hA
                    have HKb := Lib.hid hA.ptr
                    have HLb := Lib.hid hA.lt
                    have HKx := Lib.hid hkx
                    have HLx := Lib.hid lx
                    have HK0 := Lib.hid (fun W (hW : Below W0.heap.size W0 W) => (by
                      have := rkey_any x.val.node noT W HIn.out.node (by decide) (hA.pw.below hW)
                      rw [HHk0.out] at this
                      exact this : Calls Tryz.prog 52 #[.int .i64 x.val.node, .string noT] W fun e w' => e = .returned (.string k0) ∧ Below W.heap.size W w'))
                    have HH0 := Lib.hid (fun W (hW : Below W0.heap.size W0 W) => (by
                      have := hasNode_any k0 (hA.t1.below hW)
                      rw [HTh.out] at this
                      exact this : Calls Tryz.prog 59 #[.pointer (some ⟨B1, 0, none⟩), .string k0] W fun e w' => e = .returned (.bool true) ∧ Below W.heap.size W w'))
                    have HK1 := Lib.hid (fun W (hW : Below W0.heap.size W0 W) => (by
                      have := rkey_any x.val.node x.val.svc W HIn.out.node HSl.out (hA.pw.below hW)
                      rw [HHk1.out] at this
                      exact this : Calls Tryz.prog 52 #[.int .i64 x.val.node, .string x.val.svc] W fun e w' => e = .returned (.string k1) ∧ Below W.heap.size W w'))
                    have HH1 := Lib.hid (fun W (hW : Below W0.heap.size W0 W) => (by
                      have := hasService_any k1 (hA.t2.below hW)
                      rw [HHs.out] at this
                      exact this : Calls Tryz.prog 60 #[.pointer (some ⟨B2, 0, none⟩), .string k1] W fun e w' => e = .returned (.bool true) ∧ Below W.heap.size W w'))
                    clear hA hkx dx lx HMd HRt HNm HNs HSh HIs
                    go_wp2_with fail
                    have hre : ∀ w : World, ((fun a b : World => Below a.heap.size a b)) w w := (fun w => Below.refl _ w)
                    have hrd : ∀ (f : Nat → Bool) w i, i ≠ 5 → (fun (_ : Nat → Bool) (w : World) => Below W0.heap.size W0 w) f w → (fun (_ : Nat → Bool) (w : World) => Below W0.heap.size W0 w) (Go.Rel.upd f i) w := (fun _ _ _ _ h => h)
                    refine Go.Rel.wp_tab (by kernel_rfl) (by kernel_rfl) (fun (_ : Nat → Bool) (w : World) => Below W0.heap.size W0 w) ((fun a b : World => Below a.heap.size a b)) hre ((fun _ _ _ h k => h.trans (k.mono h.size))) ((⟨rfl, rfl, rfl, Nat.le_refl _, fun _ _ => rfl⟩)) ⟨rfl, rfl, rfl, Nat.le_refl _, fun _ _ => rfl⟩ (rckSE B B1 B2 X x k0 k1 true) (fun _ _ _ => True) (fun i => ([] : List Nat).contains i) (fun i => ([3, 5, 6, 10, 11, 16, 19, 20, 21] : List Nat).contains i) (by kernel_rfl) (fun _ _ _ _ h _ => h) 5 rfl hrd ?_ (Go.Rel.AllOf.get ?_) ?_
                    · repeat (refine .cons (by first | exact Go.Rel.pure_sp rfl | exact Go.Rel.pure_yes (by kernel_rfl) (fun _ => by kernel_rfl) | exact Go.Rel.pure_no (by kernel_rfl) rfl) ?_)
                      exact .nil
                    · refine ⟨?_, ?_, ?_, ?_, ?_, ?_, ?_, ?_, ?_, trivial⟩
                      · exact SpecOk.ld hrd hre (q := .pointer (some ⟨B, 0, none⟩)) (h := fun _ w' hI _ _ _ _ => by have cb := ro_ptrs ((hI.block B HLb.out).trans HKb.out); go_simp; rfl)
                      · refine SpecOk.gen (fun e => [(56, .func (.func 52) #[.int .i64 x.val.node] #[])]) rfl rfl (fun _ => by kernel_rfl) fun f w' e hI hf hdesc hanc hle hX K hK => ?_
                        go_simp
                        refine (HK0.out w' hI).mono ?_
                        rintro e w2 ⟨rfl, hb9⟩
                        exact hK _ _ hb9 (hI.trans (hb9.mono hI.size)) rfl
                      · refine SpecOk.call 59 #[.pointer (some ⟨B1, 0, none⟩), .string k0] rfl (by kernel_rfl) (fun _ => by kernel_rfl) fun _ w' hI _ _ _ _ => ?_
                        refine (HH0.out w' hI).mono ?_
                        rintro e w2 ⟨rfl, hb9⟩
                        exact ⟨_, rfl, hb9, (hI.trans (hb9.mono hI.size)), rfl⟩
                      · exact SpecOk.ld hrd hre (q := .pointer (some ⟨X, 2, none⟩)) (h := fun _ w' hI _ _ _ _ => by have cc := ck_blk ((hI.block X HLx.out).trans HKx.out); go_simp; rfl)
                      · refine SpecOk.gen (fun e => [(62, .string x.val.svc)]) rfl rfl (fun _ => by kernel_rfl) fun f w' e hI hf hdesc hanc hle hX K hK => ?_
                        have hs := HSv.out
                        go_simp
                        exact hK _ _ (hre _) (hrd f w' 11 (by decide) hI) rfl
                      · exact SpecOk.ld hrd hre (q := .pointer (some ⟨B, 1, none⟩)) (h := fun _ w' hI _ _ _ _ => by have cb := ro_ptrs ((hI.block B HLb.out).trans HKb.out); go_simp; rfl)
                      · exact SpecOk.ld hrd hre (q := .pointer (some ⟨X, 2, none⟩)) (h := fun _ w' hI _ _ _ _ => by have cc := ck_blk ((hI.block X HLx.out).trans HKx.out); go_simp; rfl)
                      · refine SpecOk.gen (fun e => [(69, .func (.func 52) #[.int .i64 x.val.node] #[]), (71, .string x.val.svc)]) rfl rfl (fun _ => by kernel_rfl) fun f w' e hI hf hdesc hanc hle hX K hK => ?_
                        go_simp
                        refine (HK1.out w' hI).mono ?_
                        rintro e w2 ⟨rfl, hb9⟩
                        exact hK _ _ hb9 (hI.trans (hb9.mono hI.size)) rfl
                      · refine SpecOk.call 60 #[.pointer (some ⟨B2, 0, none⟩), .string k1] rfl (by kernel_rfl) (fun _ => by kernel_rfl) fun _ w' hI _ _ _ _ => ?_
                        refine (HH1.out w' hI).mono ?_
                        rintro e w2 ⟨rfl, hb9⟩
                        exact ⟨_, rfl, hb9, (hI.trans (hb9.mono hI.size)), rfl⟩
                    · intro f W2 e hall hJ hle hv
                      have v9 := hv 25 rfl
                      simp only [Go.Rel.finL, List.setIfInBounds_toArray, List.set_cons_succ, List.set_cons_zero]
                      rw [show e 25 = .bool false from v9]
                      have HJ : Hid (Below w.heap.size w W2) := Lib.hid (HB1.out.trans ((HB.out.trans (hJ.mono HB.out.size)).mono HB1.out.size))
                      have HJ0 := Lib.hid hJ
                      clear hv hall hle hJ v9
                      have hA := (HA.out.below HJ0.out)
                      have HA := Lib.hid hA
                      have HKb := Lib.hid hA.ptr
                      have HLb := Lib.hid hA.lt
                      have hkx := (HJ0.out.block X HLx.out).trans HKx.out
                      have HKx := Lib.hid hkx
                      have HLx := Lib.hid (block_lt hkx)
                      have HM3 : Hid (∀ k, k = B3 → k < W2.heap.size) := Lib.hid fun k e => by rw [e]; exact hA.lts.2.2
                      have HOf := Lib.hid ofCheck_any
                      have HRw := Lib.hid (fun W (hW : Below W2.heap.size W2 W) => (by
                        have := rowCheck_any x W HIn.out.node HIl.out (hA.pw.below hW)
                        unfold ckV Ct.trV CkA.key at this
                        rw [HHk.out] at this
                        exact this : Calls Tryz.prog 97 #[.agg #[.int .i64 x.val.node, .string x.val.id, .string x.val.svc, .string x.val.note, .int .i64 x.val.status, .int .u64 (x.made : Int), .int .u64 (x.ix : Int)]] W fun e w' => e = .returned (.agg #[.string k, .int .i64 x.val.node, .string x.val.id, .string x.val.svc, .string x.val.note, .int .i64 x.val.status, .int .u64 (x.made : Int), .int .u64 (x.ix : Int), .int .u64 (x.made : Int), .int .u64 (x.ix : Int)]) ∧ Below W.heap.size W w'))
                      have HLay := Lib.hid (fun W (hW : Below W2.heap.size W2 W) => (by
                        have := layCheck_any ⟨k, ⟨x.val, x.made, x.ix⟩, x.made, x.ix⟩ i (hA.t3.below hW) HI.out HKs.out
                        unfold Ct.trV at this
                        rw [HEr.out, HT3.out] at this
                        exact this : Calls Tryz.prog 61 #[.pointer (some ⟨B3, 0, none⟩), .agg #[.string k, .int .i64 x.val.node, .string x.val.id, .string x.val.svc, .string x.val.note, .int .i64 x.val.status, .int .u64 (x.made : Int), .int .u64 (x.ix : Int), .int .u64 (x.made : Int), .int .u64 (x.ix : Int)], .int .u64 (i : Int)] W fun e w' => e = .returned (.int .i64 (er : Int)) ∧ Ct.TAt (fun k => Sub S B B1 B2 k ∨ W.heap.size ≤ k) w' B3 T3' ∧ But (· = B3) W w'))
                      clear hA hkx HK0 HH0
                      go_wp2_with fail
                      have hre : ∀ w : World, (But (OldB W2)) w w := (fun w => But.refl _ w)
                      have hrd : ∀ (f : Nat → Bool) w i, i ≠ 9 → (TI 9 W2 (fun w => Ct.TAt (fun k => Sub S B B1 B2 k ∨ W2.heap.size ≤ k) w B3 T3' ∧ But (· = B3) W2 w)) f w → (TI 9 W2 (fun w => Ct.TAt (fun k => Sub S B B1 B2 k ∨ W2.heap.size ≤ k) w B3 T3' ∧ But (· = B3) W2 w)) (Go.Rel.upd f i) w := (fun _ _ _ hi h => h.read hi)
                      refine Go.Rel.wp_tab (by kernel_rfl) (by kernel_rfl) (TI 9 W2 (fun w => Ct.TAt (fun k => Sub S B B1 B2 k ∨ W2.heap.size ≤ k) w B3 T3' ∧ But (· = B3) W2 w)) (But (OldB W2)) hre ((fun _ _ _ h k => h.trans k)) (OldB.drew) TI.start (rclE B B3 X x i k er) (fun _ _ _ => True) (fun i => ([] : List Nat).contains i) (fun i => ([3, 4, 6, 7, 9] : List Nat).contains i) (by kernel_rfl) (fun _ _ _ _ h _ => h) 9 rfl hrd ?_ (Go.Rel.AllOf.get ?_) ?_
                      · repeat (refine .cons (by first | exact Go.Rel.pure_sp rfl | exact Go.Rel.pure_yes (by kernel_rfl) (fun _ => by kernel_rfl) | exact Go.Rel.pure_no (by kernel_rfl) rfl) ?_)
                        exact .nil
                      · refine ⟨?_, ?_, ?_, ?_, ?_, trivial⟩
                        · exact SpecOk.ld hrd hre (q := .pointer (some ⟨B, 2, none⟩)) (h := fun _ w' hI _ hdesc _ _ => by have cb := ro_ptrs (((hI.ahead (hdesc 60 9 (by kernel_rfl))).block B HLb.out).trans HKb.out); go_simp; rfl)
                        · refine SpecOk.gen (fun e => []) rfl rfl (fun _ => by kernel_rfl) fun f w' e hI hf hdesc hanc hle hX K hK => ?_
                          go_simp
                          have zL : f 9 = false := hdesc 60 9 (by kernel_rfl)
                          refine (HOf.out w').mono ?_
                          rintro e w2 ⟨rfl, hb9⟩
                          exact hK _ _ (But.of_below hb9) (hI.below zL hb9 (by decide)) rfl
                        · exact SpecOk.ld hrd hre (q := .pointer (some ⟨X, 0, none⟩)) (h := fun _ w' hI _ hdesc _ _ => by have cc := ck_blk (((hI.ahead (hdesc 60 9 (by kernel_rfl))).block X HLx.out).trans HKx.out); go_simp; rfl)
                        · refine SpecOk.gen (fun e => [(82, .func (.func 97) #[] #[]), (83, .agg #[.int .i64 x.val.node, .string x.val.id, .string x.val.svc, .string x.val.note, .int .i64 x.val.status, .int .u64 (x.made : Int), .int .u64 (x.ix : Int)])]) rfl rfl (fun _ => by kernel_rfl) fun f w' e hI hf hdesc hanc hle hX K hK => ?_
                          go_simp
                          have zL : f 9 = false := hdesc 60 9 (by kernel_rfl)
                          refine (HRw.out w' (hI.ahead zL)).mono ?_
                          rintro e w2 ⟨rfl, hb9⟩
                          exact hK _ _ (But.of_below hb9) (hI.below zL hb9 (by decide)) rfl
                        · refine SpecOk.call 61 #[.pointer (some ⟨B3, 0, none⟩), .agg #[.string k, .int .i64 x.val.node, .string x.val.id, .string x.val.svc, .string x.val.note, .int .i64 x.val.status, .int .u64 (x.made : Int), .int .u64 (x.ix : Int), .int .u64 (x.made : Int), .int .u64 (x.ix : Int)], .int .u64 (i : Int)] rfl (by kernel_rfl) (fun _ => by kernel_rfl) fun _ w' hI hf _ _ _ => ?_
                          refine (HLay.out w' (hI.ahead hf)).mono ?_
                          rintro e9 w9 ⟨rfl, h9, hb9⟩
                          exact ⟨_, rfl, (But.oldB hb9 HM3.out), (TI.last ⟨h9.narrow fun k _ z => z.imp (fun z => z) fun z => Nat.le_trans (hI.ahead hf).size z, (But.of_below (hI.ahead hf)).trans hb9⟩), rfl⟩
                      · intro f w3 e hall hJ hle hv
                        have HJ2 := Lib.hid (hJ.done_ (hall 9 (by decide)))
                        have v9 := hv 10 rfl
                        simp only [Go.Rel.finL, List.setIfInBounds_toArray, List.set_cons_succ, List.set_cons_zero]
                        rw [show e 10 = .int .i64 (er : Int) from v9]
                        clear hv hall hle hJ v9
                        go_wp2
                        go_ret
                        exact ⟨rfl, ⟨HOk2.out, _, _, _, (HA.out.turn3 HJ2.out.1 HJ2.out.2).narrow fun k _ z => z.imp (fun z => z) (Nat.le_trans HJ.out.size), HE.out.1, HE.out.2.1, rfl⟩, (But.of_below HJ.out).trans (but3 HJ2.out.2)⟩
end Go.Proofs.YtilkbfmaofmjoaaGreatDoor
namespace Go.Proofs.YtilkbfmaofmjoaaGreatDoor
open Go.RowKit Go.Rel
set_option linter.unusedSimpArgs false
set_option linter.unusedVariables false
theorem put_sA {T : Tb SvW} {k : ByteArray} {v : SvW} {i : Nat} : sA (T.putT k v i) = (sA T).putT k v.a i := (Tb.putT_map _ T k v i).symm
theorem svc_bad {d : Ro} {x : SvA} {i e : Nat} (h : d.wrongS x = e) (he : e ≠ 0) : d.service x i = (e, d) := by
  unfold Ro.service
  rw [h, if_pos he]
structure SvIn (w : World) (x : Rw SvW) : Prop where
  node : -9223372036854775808 ≤ x.val.a.node ∧ x.val.a.node ≤ 9223372036854775807
  port : -9223372036854775808 ≤ x.val.a.port ∧ x.val.a.port ≤ 9223372036854775807
  id : x.val.a.id.size ≤ maxLen
  name : x.val.a.name.size ≤ maxLen
  tx : Tx w x.val.A x.val.n x.val.c x.val.a.tags
  small : Small x.val.a.tags
theorem SvIn.below {w w' : World} {x : Rw SvW} (h : SvIn w x) (hb : Below w.heap.size w w') : SvIn w' x := ⟨h.node, h.port, h.id, h.name, h.tx.below hb, h.small⟩
theorem Tx.rs {w : World} {A : Option Addr} {n c : Nat} {l : List ByteArray} (h : Tx w A n c l) : RS w A n l :=
  ⟨h.len, fun hn => by
    obtain ⟨b, off, e, hb, hc⟩ := h.row.2 hn
    exact ⟨b, off, e, hb, fun j hj => by
      have := hc j hj 0 (.string l[j]) rfl
      simpa using this⟩⟩
theorem tags_len {l : List ByteArray} (h : tagsB l = true) : l.length ≤ 4 := by
  unfold tagsB at h
  simp only [Bool.and_eq_true, decide_eq_true_eq] at h
  exact h.1.1
theorem layS_any {S : Nat → Prop} {w : World} {B B1 B2 B3 : Nat} {T1 : Tb NdW} {T2 : Tb SvW} {T3 : Tb CkW} (h : RoIs S w B B1 B2 B3 T1 T2 T3) (r : Rw SvW) (i : Nat) (hi : i < 18446744073709551616) (hk : r.key.size ≤ maxLen) (hv : TgAt (fun k => S k ∧ k ≠ B1 ∧ k ≠ B2 ∧ k ≠ B3) w r.val) : Calls Tryz.prog 75 #[.pointer (some ⟨B2, 0, none⟩), Vt.trV r, .int .u64 (i : Int)] w fun e w' => e = .returned (.int .i64 (layE T2 r.key : Int)) ∧ RoIs (fun k => S k ∨ w.heap.size ≤ k) w' B B1 B2 B3 T1 (T2.putT r.key r.val i) T3 ∧ But (· = B2) w w' :=
  (layService_any r i h.t2 hi hk).mono fun e w' ⟨q1, q2, q3⟩ => ⟨q1, h.put2 q2 q3 (v := r.val) (fun r2 hr => (putT_mem hr).imp (·.2) (fun z => z)) hv, q3⟩
def rskFalseE (B : Nat) (B1 : Nat) (X : Nat) (x : Rw SvW) (k0 : ByteArray) : Nat → Value
  | 0 | 1 | 2 => .pointer (some ⟨B, 0, none⟩)
  | 3 => .pointer (some ⟨B1, 0, none⟩)
  | 4 => .pointer (some ⟨X, 0, none⟩)
  | 5 => .int .i64 x.val.a.node
  | 6 => .string k0
  | 7 => .bool false
  | 8 | 9 => .bool true
  | _ => undef
def rskTrueE (B : Nat) (B1 : Nat) (X : Nat) (x : Rw SvW) (k0 : ByteArray) : Nat → Value
  | 0 | 1 | 2 => .pointer (some ⟨B, 0, none⟩)
  | 3 => .pointer (some ⟨B1, 0, none⟩)
  | 4 => .pointer (some ⟨X, 0, none⟩)
  | 5 => .int .i64 x.val.a.node
  | 6 => .string k0
  | 7 => .bool true
  | 8 | 9 => .bool false
  | _ => undef
def rslE (B : Nat) (B2 : Nat) (X : Nat) (x : Rw SvW) (ii : Nat) (er : Nat) : Nat → Value
  | 0 | 1 => .pointer (some ⟨B, 0, none⟩)
  | 2 => .pointer (some ⟨B, 1, none⟩)
  | 3 => .pointer (some ⟨B2, 0, none⟩)
  | 4 => .agg #[.func (.func 92) #[] #[], .func (.func 93) #[] #[]]
  | 5 => .func (.func 93) #[] #[]
  | 6 => .agg #[.int .i64 x.val.a.node, .string x.val.a.id, .string x.val.a.name, .slice x.val.A x.val.n x.val.c, .int .i64 x.val.a.port, .int .u64 (x.made : Int), .int .u64 (x.ix : Int)]
  | 8 => .int .u64 (ii : Int)
  | 9 | 10 => .int .i64 (er : Int)
  | _ => undef
set_option maxHeartbeats 8000000 in
set_option maxRecDepth 100000 in
theorem rservice_any {S : Nat → Prop} {w : World} {B B1 B2 B3 m : Nat} {d : Ro} (x : Rw SvW) (i : Nat) (h : RoAt S w B B1 B2 B3 m d) (hx : SvIn w x) (hi : i < 18446744073709551616) : Calls Tryz.prog 30 #[.pointer (some ⟨B, 0, none⟩), svV x, .int .u64 (i : Int)] w fun e w' => e = .returned (.int .i64 ((d.service x.val.a i).1 : Int)) ∧ RoAt (fun k => S k ∨ w.heap.size ≤ k) w' B B1 B2 B3 m (d.service x.val.a i).2 ∧ But (Ch3 B1 B2 B3) w w' := by
  have HAt := Lib.hid h
  obtain ⟨hok, T1, T2, T3, h, e1, e2, e3⟩ := h
  obtain ⟨X, hX⟩ : ∃ X, w.heap.size = X := ⟨_, rfl⟩
  have b0 := below1 w #[.int .i64 x.val.a.node, .string x.val.a.id, .string x.val.a.name, .slice x.val.A x.val.n x.val.c, .int .i64 x.val.a.port, .int .u64 (x.made : Int), .int .u64 (x.ix : Int)] TSv
  have k0 := heap_alloc_new w (.cells #[.int .i64 x.val.a.node, .string x.val.a.id, .string x.val.a.name, .slice x.val.A x.val.n x.val.c, .int .i64 x.val.a.port, .int .u64 (x.made : Int), .int .u64 (x.ix : Int)] TSv)
  obtain ⟨w1, hw1⟩ : ∃ w1, w.alloc (.cells #[.int .i64 x.val.a.node, .string x.val.a.id, .string x.val.a.name, .slice x.val.A x.val.n x.val.c, .int .i64 x.val.a.port, .int .u64 (x.made : Int), .int .u64 (x.ix : Int)] TSv) = w1 := ⟨_, rfl⟩
  rw [hw1] at b0 k0
  rw [hX] at k0
  have HX0 := Lib.hid hX
  have HW1 := Lib.hid hw1
  have HB1 := Lib.hid b0
  have HIs := Lib.hid (h.below b0)
  have HMd := Lib.hid (made_is (h.below b0).ptr)
  have HKx0 := Lib.hid k0
  have HE := Lib.hid (And.intro e1 (And.intro e2 e3))
  have HOk := Lib.hid hok
  have HI := Lib.hid hi
  have HIn := Lib.hid (hx.below b0)
  have HRt := Lib.hid (fun W => right_is x.val.a.node W hx.node)
  have HNm := Lib.hid (fun W => right_any x.val.a.id W hx.id)
  have HNn := Lib.hid (fun W => right_any x.val.a.name W hx.name)
  have hs1 := hx.port
  have hnm : x.val.n ≤ maxLen := Nat.le_trans hx.tx.le hx.tx.max
  have HTg := Lib.hid (fun W (hW : Below w1.heap.size w1 W) => tags_any x.val.A x.val.n x.val.c x.val.a.tags W ((hx.tx.below b0).below hW).rs hx.small hnm)
  unfold svV
  clear h e1 e2 e3 hok hi hX hw1 b0 k0 hx hnm
  cases hb : nodeB x.val.a.node with
  | false =>
    have hd : d.service x.val.a i = (2, d) := svc_bad (by
      unfold Ro.wrongS
      rw [if_pos (.inl hb)]) (by decide)
    rw [hd]
    clear hd
    rw [hb] at HRt
    clear hb
    go_enter Tryz.func30, Tryz.ntmps30
    go_wp2_with fail
    rw [HW1.out, HX0.out]
    refine HMd.out.mono ?_
    rintro e W0 ⟨rfl, hb⟩
    have HB := Lib.hid hb
    have hkx := (hb.block X (block_lt HKx0.out)).trans HKx0.out
    have dx := sv_blk hkx
    have lx := block_lt hkx
    clear hb
    go_wp2_with fail
    refine (HRt.out _).mono ?_
    rintro e w2 ⟨rfl, rfl⟩
    go_wp2
    go_ret
    exact ⟨rfl, HAt.out.wide (HB1.out.trans (HB.out.mono HB1.out.size)), But.of_below (HB1.out.trans (HB.out.mono HB1.out.size))⟩
  | true =>
    rw [hb] at HRt
    by_cases hs2 : x.val.a.port < 0
    · have hw := hs2
      have hd : d.service x.val.a i = (2, d) := svc_bad (by
        unfold Ro.wrongS
        rw [if_pos (.inr (.inl hs2))]) (by decide)
      rw [hd]
      clear hd
      clear hb hw
      go_enter Tryz.func30, Tryz.ntmps30
      go_wp2_with fail
      rw [HW1.out, HX0.out]
      refine HMd.out.mono ?_
      rintro e W0 ⟨rfl, hb⟩
      have HB := Lib.hid hb
      have hkx := (hb.block X (block_lt HKx0.out)).trans HKx0.out
      have dx := sv_blk hkx
      have lx := block_lt hkx
      clear hb
      go_wp2_with fail
      refine (HRt.out _).mono ?_
      rintro e w2 ⟨rfl, rfl⟩
      go_wp2
      go_ret
      exact ⟨rfl, HAt.out.wide (HB1.out.trans (HB.out.mono HB1.out.size)), But.of_below (HB1.out.trans (HB.out.mono HB1.out.size))⟩
    · by_cases hs3 : 65535 < x.val.a.port
      · have hw := hs3
        have hd : d.service x.val.a i = (2, d) := svc_bad (by
          unfold Ro.wrongS
          rw [if_pos (.inr (.inr hs3))]) (by decide)
        rw [hd]
        clear hd
        clear hb hw
        go_enter Tryz.func30, Tryz.ntmps30
        go_wp2_with fail
        rw [HW1.out, HX0.out]
        refine HMd.out.mono ?_
        rintro e W0 ⟨rfl, hb⟩
        have HB := Lib.hid hb
        have hkx := (hb.block X (block_lt HKx0.out)).trans HKx0.out
        have dx := sv_blk hkx
        have lx := block_lt hkx
        clear hb
        go_wp2_with fail
        refine (HRt.out _).mono ?_
        rintro e w2 ⟨rfl, rfl⟩
        go_wp2
        go_ret
        exact ⟨rfl, HAt.out.wide (HB1.out.trans (HB.out.mono HB1.out.size)), But.of_below (HB1.out.trans (HB.out.mono HB1.out.size))⟩
      · have ds2 : decide (x.val.a.port < 0) = false := decide_eq_false hs2
        have ds3 : decide (65535 < x.val.a.port) = false := decide_eq_false hs3
        have h1 : ¬ (nodeB x.val.a.node = false ∨ x.val.a.port < 0 ∨ 65535 < x.val.a.port) := by rw [hb]; simp; omega
        cases hid : rightB x.val.a.id.data.toList with
        | false =>
          have hd : d.service x.val.a i = (10, d) := svc_bad (by
            unfold Ro.wrongS
            rw [if_neg h1, if_pos (.inl hid)]) (by decide)
          rw [hd]
          clear hd
          rw [hid] at HNm
          clear hb h1 hid
          go_enter Tryz.func30, Tryz.ntmps30
          go_wp2_with fail
          rw [HW1.out, HX0.out]
          refine HMd.out.mono ?_
          rintro e W0 ⟨rfl, hb⟩
          have HB := Lib.hid hb
          have hkx := (hb.block X (block_lt HKx0.out)).trans HKx0.out
          have dx := sv_blk hkx
          have lx := block_lt hkx
          clear hb
          go_wp2_with fail
          refine (HRt.out _).mono ?_
          rintro e w2 ⟨rfl, rfl⟩
          go_wp2_with fail
          refine (HNm.out _).mono ?_
          rintro e w2 ⟨rfl, rfl⟩
          go_wp2
          go_ret
          exact ⟨rfl, HAt.out.wide (HB1.out.trans (HB.out.mono HB1.out.size)), But.of_below (HB1.out.trans (HB.out.mono HB1.out.size))⟩
        | true =>
          have hidl := right_sz hid
          rw [hid] at HNm
          cases hnn : rightB x.val.a.name.data.toList with
          | false =>
            have hd : d.service x.val.a i = (10, d) := svc_bad (by
              unfold Ro.wrongS
              rw [if_neg h1, if_pos (.inr (.inl hnn))]) (by decide)
            rw [hd]
            clear hd
            rw [hnn] at HNn
            clear hb h1 hid hnn
            go_enter Tryz.func30, Tryz.ntmps30
            go_wp2_with fail
            rw [HW1.out, HX0.out]
            refine HMd.out.mono ?_
            rintro e W0 ⟨rfl, hb⟩
            have HB := Lib.hid hb
            have hkx := (hb.block X (block_lt HKx0.out)).trans HKx0.out
            have dx := sv_blk hkx
            have lx := block_lt hkx
            clear hb
            go_wp2_with fail
            refine (HRt.out _).mono ?_
            rintro e w2 ⟨rfl, rfl⟩
            go_wp2_with fail
            refine (HNm.out _).mono ?_
            rintro e w2 ⟨rfl, rfl⟩
            go_wp2_with fail
            refine (HNn.out _).mono ?_
            rintro e w2 ⟨rfl, rfl⟩
            go_wp2
            go_ret
            exact ⟨rfl, HAt.out.wide (HB1.out.trans (HB.out.mono HB1.out.size)), But.of_below (HB1.out.trans (HB.out.mono HB1.out.size))⟩
          | true =>
            rw [hnn] at HNn
            cases htg : tagsB x.val.a.tags with
            | false =>
              have hd : d.service x.val.a i = (10, d) := svc_bad (by
                unfold Ro.wrongS
                rw [if_neg h1, if_pos (.inr (.inr htg))]) (by decide)
              rw [hd]
              clear hd
              rw [htg] at HTg
              clear hb h1 hid hnn htg
              go_enter Tryz.func30, Tryz.ntmps30
              go_wp2_with fail
              rw [HW1.out, HX0.out]
              refine HMd.out.mono ?_
              rintro e W0 ⟨rfl, hb⟩
              have HB := Lib.hid hb
              have hkx := (hb.block X (block_lt HKx0.out)).trans HKx0.out
              have dx := sv_blk hkx
              have lx := block_lt hkx
              clear hb
              go_wp2_with fail
              refine (HRt.out _).mono ?_
              rintro e w2 ⟨rfl, rfl⟩
              go_wp2_with fail
              refine (HNm.out _).mono ?_
              rintro e w2 ⟨rfl, rfl⟩
              go_wp2_with fail
              refine (HNn.out _).mono ?_
              rintro e w2 ⟨rfl, rfl⟩
              go_wp2_with fail
              refine (HTg.out _ HB.out).mono ?_
              rintro e W1 ⟨rfl, hb⟩
              have hkx1 := (hb.block X (block_lt hkx)).trans hkx
              have HB : Hid (Below w1.heap.size w1 W1) := Lib.hid (HB.out.trans (hb.mono HB.out.size))
              clear hb dx lx
              have dx := sv_blk hkx1
              have lx := block_lt hkx1
              go_wp2
              go_ret
              exact ⟨rfl, HAt.out.wide (HB1.out.trans (HB.out.mono HB1.out.size)), But.of_below (HB1.out.trans (HB.out.mono HB1.out.size))⟩
            | true =>
              have htl := tags_len htg
              rw [htg] at HTg
              have h2 : ¬ (rightB x.val.a.id.data.toList = false ∨ rightB x.val.a.name.data.toList = false ∨ tagsB x.val.a.tags = false) := by rw [hid, hnn, htg]; simp
              obtain ⟨k0, hk0⟩ : ∃ k0, keyO x.val.a.node noT = k0 := ⟨_, rfl⟩
              cases hth : d.there x.val.a.node with
              | false =>
                have hd : d.service x.val.a i = (4, d) := svc_bad (by
                  unfold Ro.wrongS
                  rw [if_neg h1, if_neg h2, if_pos hth]) (by decide)
                rw [hd]
                clear hd
                have HTh : Hid ((getR T1.l k0).isSome = false) := Lib.hid (by rw [← has_map (fun v : NdW => v.a) T1]; show (getR (nA T1).l k0).isSome = _; rw [HE.out.1, ← hk0]; exact hth)
                have HHk0 := Lib.hid hk0
                clear hb h1 h2 hid hnn htg hth hk0
                go_enter Tryz.func30, Tryz.ntmps30
                go_wp2_with fail
                rw [HW1.out, HX0.out]
                refine HMd.out.mono ?_
                rintro e W0 ⟨rfl, hb⟩
                have HB := Lib.hid hb
                have hkx := (hb.block X (block_lt HKx0.out)).trans HKx0.out
                have dx := sv_blk hkx
                have lx := block_lt hkx
                clear hb
                go_wp2_with fail
                refine (HRt.out _).mono ?_
                rintro e w2 ⟨rfl, rfl⟩
                go_wp2_with fail
                refine (HNm.out _).mono ?_
                rintro e w2 ⟨rfl, rfl⟩
                go_wp2_with fail
                refine (HNn.out _).mono ?_
                rintro e w2 ⟨rfl, rfl⟩
                go_wp2_with fail
                refine (HTg.out _ HB.out).mono ?_
                rintro e W1 ⟨rfl, hb⟩
                have hkx1 := (hb.block X (block_lt hkx)).trans hkx
                have HB : Hid (Below w1.heap.size w1 W1) := Lib.hid (HB.out.trans (hb.mono HB.out.size))
                clear hb dx lx
                have dx := sv_blk hkx1
                have lx := block_lt hkx1
                have hA := HIs.out.below HB.out
                have HA := Lib.hid hA
                have HKb := Lib.hid hA.ptr
                have HLb := Lib.hid hA.lt
                have HKx := Lib.hid hkx1
                have HLx := Lib.hid lx
                have HK0 := Lib.hid (fun W (hW : Below W1.heap.size W1 W) => (by
                  have := rkey_any x.val.a.node noT W HIn.out.node (by decide) (hA.pw.below hW)
                  rw [HHk0.out] at this
                  exact this : Calls Tryz.prog 52 #[.int .i64 x.val.a.node, .string noT] W fun e w' => e = .returned (.string k0) ∧ Below W.heap.size W w'))
                have HH0 := Lib.hid (fun W (hW : Below W1.heap.size W1 W) => (by
                  have := hasNode_any k0 (hA.t1.below hW)
                  rw [HTh.out] at this
                  exact this : Calls Tryz.prog 59 #[.pointer (some ⟨B1, 0, none⟩), .string k0] W fun e w' => e = .returned (.bool false) ∧ Below W.heap.size W w'))
                clear hA hkx hkx1 dx lx HMd HRt HNm HNn HTg HIs
                go_wp2_with fail
                have hre : ∀ w : World, ((fun a b : World => Below a.heap.size a b)) w w := (fun w => Below.refl _ w)
                have hrd : ∀ (f : Nat → Bool) w i, i ≠ 6 → (fun (_ : Nat → Bool) (w : World) => Below W1.heap.size W1 w) f w → (fun (_ : Nat → Bool) (w : World) => Below W1.heap.size W1 w) (Go.Rel.upd f i) w := (fun _ _ _ _ h => h)
                refine Go.Rel.wp_tab (by kernel_rfl) (by kernel_rfl) (fun (_ : Nat → Bool) (w : World) => Below W1.heap.size W1 w) ((fun a b : World => Below a.heap.size a b)) hre ((fun _ _ _ h k => h.trans (k.mono h.size))) ((⟨rfl, rfl, rfl, Nat.le_refl _, fun _ _ => rfl⟩)) ⟨rfl, rfl, rfl, Nat.le_refl _, fun _ _ => rfl⟩ (rskFalseE B B1 X x k0) (fun _ _ _ => True) (fun i => ([] : List Nat).contains i) (fun i => ([3, 5, 6, 7] : List Nat).contains i) (by kernel_rfl) (fun _ _ _ _ h _ => h) 6 rfl hrd ?_ (Go.Rel.AllOf.get ?_) ?_
                · repeat (refine .cons (by first | exact Go.Rel.pure_sp rfl | exact Go.Rel.pure_yes (by kernel_rfl) (fun _ => by kernel_rfl) | exact Go.Rel.pure_no (by kernel_rfl) rfl) ?_)
                  exact .nil
                · refine ⟨?_, ?_, ?_, ?_, trivial⟩
                  · exact SpecOk.ld hrd hre (q := .pointer (some ⟨B, 0, none⟩)) (h := fun _ w' hI _ _ _ _ => by have cb := ro_ptrs ((hI.block B HLb.out).trans HKb.out); go_simp; rfl)
                  · exact SpecOk.ld hrd hre (q := .pointer (some ⟨X, 0, none⟩)) (h := fun _ w' hI _ _ _ _ => by have cc := sv_blk ((hI.block X HLx.out).trans HKx.out); go_simp; rfl)
                  · refine SpecOk.call 52 #[.int .i64 x.val.a.node, .string { data := #[] }] rfl (by kernel_rfl) (fun _ => by kernel_rfl) fun _ w' hI _ _ _ _ => ?_
                    refine (HK0.out w' hI).mono ?_
                    rintro e w2 ⟨rfl, hb9⟩
                    exact ⟨_, rfl, hb9, (hI.trans (hb9.mono hI.size)), rfl⟩
                  · refine SpecOk.call 59 #[.pointer (some ⟨B1, 0, none⟩), .string k0] rfl (by kernel_rfl) (fun _ => by kernel_rfl) fun _ w' hI _ _ _ _ => ?_
                    refine (HH0.out w' hI).mono ?_
                    rintro e w2 ⟨rfl, hb9⟩
                    exact ⟨_, rfl, hb9, (hI.trans (hb9.mono hI.size)), rfl⟩
                · intro f W2 e hall hJ hle hv
                  have v9 := hv 9 rfl
                  simp only [Go.Rel.finL, List.setIfInBounds_toArray, List.set_cons_succ, List.set_cons_zero]
                  rw [show e 9 = .bool true from v9]
                  have HJ : Hid (Below w.heap.size w W2) := Lib.hid (HB1.out.trans ((HB.out.trans (hJ.mono HB.out.size)).mono HB1.out.size))
                  have HJ0 := Lib.hid hJ
                  clear hv hall hle hJ v9
                  go_wp2
                  go_ret
                  exact ⟨rfl, HAt.out.wide HJ.out, But.of_below HJ.out⟩
              | true =>
                have hw : d.wrongS x.val.a = 0 := by
                  unfold Ro.wrongS
                  rw [if_neg h1, if_neg h2, if_neg (by rw [hth]; simp)]
                have hok1 := wrongS_ok.1 hw
                obtain ⟨k, hk⟩ : ∃ k, keyO x.val.a.node x.val.a.id = k := ⟨_, rfl⟩
                have hks : k.size ≤ maxLen := by rw [← hk]; exact hok1.1.key
                obtain ⟨er, her⟩ : ∃ er, layE T2 k = er := ⟨_, rfl⟩
                obtain ⟨d', hd'⟩ : ∃ d', (d.service x.val.a i).2 = d' := ⟨_, rfl⟩
                have hd : (d.service x.val.a i).1 = er ∧ d'.n = d.n ∧ d'.c = d.c ∧ ∀ v : SvW, v.a = x.val.a → sA (T2.putT k v i) = d'.s := by
                  rw [← hd']
                  unfold Ro.service SvA.key
                  rw [hw, if_neg (by simp), hk, ← HE.out.2.1, layE_map, her]
                  exact ⟨rfl, rfl, rfl, fun v e => by rw [put_sA, e]⟩
                have hok2 := HOk.out.service (x := x.val.a) HI.out
                rw [hd'] at hok2 ⊢
                rw [hd.1]
                have HD := Lib.hid hd.2
                have HOk2 := Lib.hid hok2
                have HKs := Lib.hid hks
                have HHk := Lib.hid hk
                have HEr := Lib.hid her
                have HN4 : Hid (x.val.n ≤ 4) := Lib.hid (by have := HIn.out.tx.len; omega)
                have HIl := Lib.hid hidl
                have HTh : Hid ((getR T1.l k0).isSome = true) := Lib.hid (by rw [← has_map (fun v : NdW => v.a) T1]; show (getR (nA T1).l k0).isSome = _; rw [HE.out.1, ← hk0]; exact hth)
                have HHk0 := Lib.hid hk0
                clear hw hok1 hk hks her hd hd' hok2 hb h1 h2 hid hnn htg hth hk0 htl hidl
                go_enter Tryz.func30, Tryz.ntmps30
                go_wp2_with fail
                rw [HW1.out, HX0.out]
                refine HMd.out.mono ?_
                rintro e W0 ⟨rfl, hb⟩
                have HB := Lib.hid hb
                have hkx := (hb.block X (block_lt HKx0.out)).trans HKx0.out
                have dx := sv_blk hkx
                have lx := block_lt hkx
                clear hb
                go_wp2_with fail
                refine (HRt.out _).mono ?_
                rintro e w2 ⟨rfl, rfl⟩
                go_wp2_with fail
                refine (HNm.out _).mono ?_
                rintro e w2 ⟨rfl, rfl⟩
                go_wp2_with fail
                refine (HNn.out _).mono ?_
                rintro e w2 ⟨rfl, rfl⟩
                go_wp2_with fail
                refine (HTg.out _ HB.out).mono ?_
                rintro e W1 ⟨rfl, hb⟩
                have hkx1 := (hb.block X (block_lt hkx)).trans hkx
                have HB : Hid (Below w1.heap.size w1 W1) := Lib.hid (HB.out.trans (hb.mono HB.out.size))
                clear hb dx lx
                have dx := sv_blk hkx1
                have lx := block_lt hkx1
                have hA := HIs.out.below HB.out
                have HA := Lib.hid hA
                have HKb := Lib.hid hA.ptr
                have HLb := Lib.hid hA.lt
                have HKx := Lib.hid hkx1
                have HLx := Lib.hid lx
                have HK0 := Lib.hid (fun W (hW : Below W1.heap.size W1 W) => (by
                  have := rkey_any x.val.a.node noT W HIn.out.node (by decide) (hA.pw.below hW)
                  rw [HHk0.out] at this
                  exact this : Calls Tryz.prog 52 #[.int .i64 x.val.a.node, .string noT] W fun e w' => e = .returned (.string k0) ∧ Below W.heap.size W w'))
                have HH0 := Lib.hid (fun W (hW : Below W1.heap.size W1 W) => (by
                  have := hasNode_any k0 (hA.t1.below hW)
                  rw [HTh.out] at this
                  exact this : Calls Tryz.prog 59 #[.pointer (some ⟨B1, 0, none⟩), .string k0] W fun e w' => e = .returned (.bool true) ∧ Below W.heap.size W w'))
                clear hA hkx hkx1 dx lx HMd HRt HNm HNn HTg HIs
                go_wp2_with fail
                have hre : ∀ w : World, ((fun a b : World => Below a.heap.size a b)) w w := (fun w => Below.refl _ w)
                have hrd : ∀ (f : Nat → Bool) w i, i ≠ 6 → (fun (_ : Nat → Bool) (w : World) => Below W1.heap.size W1 w) f w → (fun (_ : Nat → Bool) (w : World) => Below W1.heap.size W1 w) (Go.Rel.upd f i) w := (fun _ _ _ _ h => h)
                refine Go.Rel.wp_tab (by kernel_rfl) (by kernel_rfl) (fun (_ : Nat → Bool) (w : World) => Below W1.heap.size W1 w) ((fun a b : World => Below a.heap.size a b)) hre ((fun _ _ _ h k => h.trans (k.mono h.size))) ((⟨rfl, rfl, rfl, Nat.le_refl _, fun _ _ => rfl⟩)) ⟨rfl, rfl, rfl, Nat.le_refl _, fun _ _ => rfl⟩ (rskTrueE B B1 X x k0) (fun _ _ _ => True) (fun i => ([] : List Nat).contains i) (fun i => ([3, 5, 6, 7] : List Nat).contains i) (by kernel_rfl) (fun _ _ _ _ h _ => h) 6 rfl hrd ?_ (Go.Rel.AllOf.get ?_) ?_
                · repeat (refine .cons (by first | exact Go.Rel.pure_sp rfl | exact Go.Rel.pure_yes (by kernel_rfl) (fun _ => by kernel_rfl) | exact Go.Rel.pure_no (by kernel_rfl) rfl) ?_)
                  exact .nil
                · refine ⟨?_, ?_, ?_, ?_, trivial⟩
                  · exact SpecOk.ld hrd hre (q := .pointer (some ⟨B, 0, none⟩)) (h := fun _ w' hI _ _ _ _ => by have cb := ro_ptrs ((hI.block B HLb.out).trans HKb.out); go_simp; rfl)
                  · exact SpecOk.ld hrd hre (q := .pointer (some ⟨X, 0, none⟩)) (h := fun _ w' hI _ _ _ _ => by have cc := sv_blk ((hI.block X HLx.out).trans HKx.out); go_simp; rfl)
                  · refine SpecOk.call 52 #[.int .i64 x.val.a.node, .string { data := #[] }] rfl (by kernel_rfl) (fun _ => by kernel_rfl) fun _ w' hI _ _ _ _ => ?_
                    refine (HK0.out w' hI).mono ?_
                    rintro e w2 ⟨rfl, hb9⟩
                    exact ⟨_, rfl, hb9, (hI.trans (hb9.mono hI.size)), rfl⟩
                  · refine SpecOk.call 59 #[.pointer (some ⟨B1, 0, none⟩), .string k0] rfl (by kernel_rfl) (fun _ => by kernel_rfl) fun _ w' hI _ _ _ _ => ?_
                    refine (HH0.out w' hI).mono ?_
                    rintro e w2 ⟨rfl, hb9⟩
                    exact ⟨_, rfl, hb9, (hI.trans (hb9.mono hI.size)), rfl⟩
                · intro f W2 e hall hJ hle hv
                  have v9 := hv 9 rfl
                  simp only [Go.Rel.finL, List.setIfInBounds_toArray, List.set_cons_succ, List.set_cons_zero]
                  rw [show e 9 = .bool false from v9]
                  have HJ : Hid (Below w.heap.size w W2) := Lib.hid (HB1.out.trans ((HB.out.trans (hJ.mono HB.out.size)).mono HB1.out.size))
                  have HJ0 := Lib.hid hJ
                  clear hv hall hle hJ v9
                  have hA := (HA.out.below HJ0.out)
                  have HA := Lib.hid hA
                  have HKb := Lib.hid hA.ptr
                  have HLb := Lib.hid hA.lt
                  have hkx := (HJ0.out.block X HLx.out).trans HKx.out
                  have HKx := Lib.hid hkx
                  have HLx := Lib.hid (block_lt hkx)
                  have HM2 : Hid (∀ k, k = B2 → k < W2.heap.size) := Lib.hid fun k e => by rw [e]; exact hA.lts.2.1
                  have HOf := Lib.hid ofService_any
                  have hin2 := HIn.out.below (HB.out.trans (HJ0.out.mono HB.out.size))
                  have HRw := Lib.hid (fun W (hW : Below W2.heap.size W2 W) => (by
                    have := rowService_any x W (hin2.tx.below hW) (by have := HN4.out; omega) hin2.node HIl.out (hA.pw.below hW)
                    unfold svV Vt.trV SvA.key at this
                    rw [HHk.out] at this
                    exact this.mono fun e w' ⟨A, c, q1, q2, q3, q4⟩ => ⟨A, c, q1, q2, fun b off e => Nat.le_trans hW.size (q3 b off e), q4⟩ : Calls Tryz.prog 93 #[.agg #[.int .i64 x.val.a.node, .string x.val.a.id, .string x.val.a.name, .slice x.val.A x.val.n x.val.c, .int .i64 x.val.a.port, .int .u64 (x.made : Int), .int .u64 (x.ix : Int)]] W fun e w' => ∃ A c, e = .returned (.agg #[.string k, .int .i64 x.val.a.node, .string x.val.a.id, .string x.val.a.name, .slice A x.val.n c, .int .i64 x.val.a.port, .int .u64 (x.made : Int), .int .u64 (x.ix : Int), .int .u64 (x.made : Int), .int .u64 (x.ix : Int)]) ∧ Tx w' A x.val.n c x.val.a.tags ∧ (∀ b off, A = some ⟨b, off, none⟩ → W2.heap.size ≤ b) ∧ Below W.heap.size W w'))
                  have HLay := Lib.hid (fun W (hW : Below W2.heap.size W2 W) (A : Option Addr) (c : Nat) (hs : Tx W A x.val.n c x.val.a.tags ∧ ∀ b off, A = some ⟨b, off, none⟩ → W2.heap.size ≤ b) => (by
                    have := layS_any (S := fun k => S k ∨ W2.heap.size ≤ k) ((hA.below hW).narrow fun _ _ z => .inl z) ⟨k, { x.val with A := A, c := c, jm := x.made, ji := x.ix }, x.made, x.ix⟩ i HI.out HKs.out ⟨hs.1, fun b off e hn => by have := hs.2 b off e; have := hA.lts; exact ⟨.inr (by omega), by omega, by omega, by omega⟩⟩
                    unfold Vt.trV at this
                    rw [HEr.out] at this
                    exact this.mono fun e w' ⟨q1, q2, q3⟩ => ⟨q1, q2.narrow fun k _ z => by rcases z with z | z; exact z; exact .inr (Nat.le_trans hW.size z), q3⟩ : Calls Tryz.prog 75 #[.pointer (some ⟨B2, 0, none⟩), .agg #[.string k, .int .i64 x.val.a.node, .string x.val.a.id, .string x.val.a.name, .slice A x.val.n c, .int .i64 x.val.a.port, .int .u64 (x.made : Int), .int .u64 (x.ix : Int), .int .u64 (x.made : Int), .int .u64 (x.ix : Int)], .int .u64 (i : Int)] W fun e w' => e = .returned (.int .i64 (er : Int)) ∧ RoIs (fun k => S k ∨ W2.heap.size ≤ k) w' B B1 B2 B3 T1 (T2.putT k { x.val with A := A, c := c, jm := x.made, ji := x.ix } i) T3 ∧ But (· = B2) W w'))
                  clear hA hkx HK0 HH0 hin2
                  go_wp2_with fail
                  obtain ⟨ii, hii⟩ : ∃ ii, i = ii := ⟨_, rfl⟩
                  have HLay := HLay
                  rw [hii] at HLay HD ⊢
                  clear hii
                  have hre : ∀ w : World, (But (OldB W2)) w w := (fun w => But.refl _ w)
                  have hrd : ∀ (f : Nat → Bool) w i, i ≠ 9 → (TI 9 W2 (fun w => ∃ A c, RoIs (fun k => S k ∨ W2.heap.size ≤ k) w B B1 B2 B3 T1 (T2.putT k { x.val with A := A, c := c, jm := x.made, ji := x.ix } ii) T3 ∧ But (· = B2) W2 w)) f w → (TI 9 W2 (fun w => ∃ A c, RoIs (fun k => S k ∨ W2.heap.size ≤ k) w B B1 B2 B3 T1 (T2.putT k { x.val with A := A, c := c, jm := x.made, ji := x.ix } ii) T3 ∧ But (· = B2) W2 w)) (Go.Rel.upd f i) w := (fun _ _ _ hi h => h.read hi)
                  refine Go.Rel.wp_tab (by kernel_rfl) (by kernel_rfl) (TI 9 W2 (fun w => ∃ A c, RoIs (fun k => S k ∨ W2.heap.size ≤ k) w B B1 B2 B3 T1 (T2.putT k { x.val with A := A, c := c, jm := x.made, ji := x.ix } ii) T3 ∧ But (· = B2) W2 w)) (But (OldB W2)) hre ((fun _ _ _ h k => h.trans k)) (OldB.drew) TI.start (rslE B B2 X x ii er) (fun | 7, v, w => ∃ A c, v = .agg #[.string k, .int .i64 x.val.a.node, .string x.val.a.id, .string x.val.a.name, .slice A x.val.n c, .int .i64 x.val.a.port, .int .u64 (x.made : Int), .int .u64 (x.ix : Int), .int .u64 (x.made : Int), .int .u64 (x.ix : Int)] ∧ Tx w A x.val.n c x.val.a.tags ∧ ∀ b off, A = some ⟨b, off, none⟩ → W2.heap.size ≤ b | _, _, _ => True) (fun i => ([7] : List Nat).contains i) (fun i => ([3, 4, 6, 7, 9] : List Nat).contains i) (by kernel_rfl) (fun i v w w' h g => by revert h; split <;> intro h <;> first | exact h | trivial | (obtain ⟨A, c, e, k1, k2⟩ := h; exact ⟨A, c, e, ⟨k1.row.but g (fun b off e hn z => absurd z (by have := k2 b off e; unfold OldB; omega)), k1.le, k1.max, k1.nil⟩, k2⟩)) 9 rfl hrd ?_ (Go.Rel.AllOf.get ?_) ?_
                  · repeat (refine .cons (by first | exact Go.Rel.pure_sp rfl | exact Go.Rel.pure_yes (by kernel_rfl) (fun _ => by kernel_rfl) | exact Go.Rel.pure_no (by kernel_rfl) rfl) ?_)
                    exact .nil
                  · refine ⟨?_, ?_, ?_, ?_, ?_, trivial⟩
                    · exact SpecOk.ld hrd hre (q := .pointer (some ⟨B, 1, none⟩)) (h := fun _ w' hI _ hdesc _ _ => by have cb := ro_ptrs (((hI.ahead (hdesc 60 9 (by kernel_rfl))).block B HLb.out).trans HKb.out); go_simp; rfl)
                    · refine SpecOk.gen (fun e => []) rfl rfl (fun _ => by kernel_rfl) fun f w' e hI hf hdesc hanc hle hX K hK => ?_
                      go_simp
                      have zL : f 9 = false := hdesc 60 9 (by kernel_rfl)
                      refine (HOf.out w').mono ?_
                      rintro e9 w9 ⟨rfl, hb9⟩
                      exact hK _ _ (But.of_below hb9) (hI.below zL hb9 (by decide)) rfl
                    · exact SpecOk.ld hrd hre (q := .pointer (some ⟨X, 0, none⟩)) (h := fun _ w' hI _ hdesc _ _ => by have cc := sv_blk (((hI.ahead (hdesc 60 9 (by kernel_rfl))).block X HLx.out).trans HKx.out); go_simp; rfl)
                    · refine SpecOk.gen (fun e => [(58, .func (.func 93) #[] #[]), (59, .agg #[.int .i64 x.val.a.node, .string x.val.a.id, .string x.val.a.name, .slice x.val.A x.val.n x.val.c, .int .i64 x.val.a.port, .int .u64 (x.made : Int), .int .u64 (x.ix : Int)])]) rfl rfl (fun _ => by kernel_rfl) fun f w' e hI hf hdesc hanc hle hX K hK => ?_
                      go_simp
                      have zL : f 9 = false := hdesc 60 9 (by kernel_rfl)
                      refine (HRw.out w' (hI.ahead zL)).mono ?_
                      rintro e9 w9 ⟨A9, c9, rfl, tx9, ge9, hb9⟩
                      exact hK _ _ (But.of_below hb9) (hI.below zL hb9 (by decide)) ⟨A9, c9, rfl, tx9, ge9⟩
                    · refine SpecOk.gen (fun e => [(56, .pointer (some ⟨B2, 0, none⟩)), (60, e 7), (61, .int .u64 (ii : Int))]) rfl rfl (fun _ => by kernel_rfl) fun f w' e hI hf hdesc hanc hle hX K hK => ?_
                      obtain ⟨A7, c7, e7, s7⟩ := hX 7 rfl rfl
                      simp only [e7]
                      go_simp
                      refine (HLay.out w' (hI.ahead hf) A7 c7 s7).mono ?_
                      rintro e9 w9 ⟨rfl, h9, hb9⟩
                      exact hK _ _ (But.oldB hb9 HM2.out) (TI.last ⟨A7, c7, h9, (But.of_below (hI.ahead hf)).trans hb9⟩) rfl
                  · intro f w3 e hall hJ hle hv
                    have HJ2 := Lib.hid (hJ.done_ (hall 9 (by decide)))
                    have v9 := hv 10 rfl
                    simp only [Go.Rel.finL, List.setIfInBounds_toArray, List.set_cons_succ, List.set_cons_zero]
                    rw [show e 10 = .int .i64 (er : Int) from v9]
                    clear hv hall hle hJ v9
                    go_wp2
                    go_ret
                    obtain ⟨A, c, q1, q2⟩ := HJ2.out
                    exact ⟨rfl, ⟨HOk2.out, _, _, _, q1.narrow fun k _ z => z.imp (fun z => z) (Nat.le_trans HJ.out.size), HE.out.1.trans HD.out.1.symm, HD.out.2.2 _ rfl, HE.out.2.2.trans HD.out.2.1.symm⟩, (But.of_below HJ.out).trans (but2 q2)⟩
end Go.Proofs.YtilkbfmaofmjoaaGreatDoor
namespace Go.Proofs.YtilkbfmaofmjoaaGreatDoor
open Go.RowKit Go.Rel
set_option linter.unusedSimpArgs false
set_option linter.unusedVariables false
set_option maxHeartbeats 2000000 in
theorem rnew_any (m : Int) (w : World) (hm : -9223372036854775808 ≤ m ∧ m ≤ 9223372036854775807) (hp : PwIs w) : Calls Tryz.prog 9 #[.int .i64 m] w fun e w' => ∃ B B1 B2 B3, e = .returned (.pointer (some ⟨B, 0, none⟩)) ∧ RoAt (fun k => w.heap.size ≤ k ∨ k = gPw) w' B B1 B2 B3 (mostT m) (Ro.new (mostT m)) ∧ Below w.heap.size w w' := by
  have H1 := Lib.hid (Nt.new_any m w hm)
  have H2 := Lib.hid (fun W => Vt.new_any m W hm)
  have H3 := Lib.hid (fun W => Ct.new_any m W hm)
  have HP := Lib.hid hp
  clear hm hp
  go_enter Tryz.func9, Tryz.ntmps9
  go_wp2_with fail
  refine H1.out.mono ?_
  rintro e w1 ⟨B1, rfl, t1, b1⟩
  have HT1 := Lib.hid t1
  have HB1 := Lib.hid b1
  clear t1 b1 H1
  go_wp2_with fail
  refine (H2.out w1).mono ?_
  rintro e w2 ⟨B2, rfl, t2, b2⟩
  have HT2 := Lib.hid t2
  have HB2 := Lib.hid b2
  clear t2 b2 H2
  go_wp2_with fail
  refine (H3.out w2).mono ?_
  rintro e w3 ⟨B3, rfl, t3, b3⟩
  have HT3 := Lib.hid t3
  have HB3 := Lib.hid b3
  clear t3 b3 H3
  go_wp2
  go_ret
  have b4 := below1 w3 #[.pointer (some ⟨B1, 0, none⟩), .pointer (some ⟨B2, 0, none⟩), .pointer (some ⟨B3, 0, none⟩)] TRo
  have t1 := HT1.out
  have t2 := HT2.out
  have t3 := HT3.out
  have b1 := HB1.out
  have b2 := HB2.out
  have b3 := HB3.out
  have l1 := t1.lt
  have l2 := t2.lt
  have l3 := t3.lt
  have m1 : w.heap.size ≤ B1 := t1.mine
  have m2 : w1.heap.size ≤ B2 := t2.mine
  have m3 : w2.heap.size ≤ B3 := t3.mine
  have s1 := b1.size
  have s2 := b2.size
  have s3 := b3.size
  have hpl := HP.out.lt
  have hbb : Below w.heap.size w w3 := b1.trans ((b2.trans (b3.mono s2)).mono s1)
  have ba : Below w.heap.size w _ := hbb.trans (b4.mono (by omega))
  refine ⟨w3.heap.size, B1, B2, B3, rfl, ⟨RoOk.new m, ⟨mostT m, [], 0⟩, ⟨mostT m, [], 0⟩, ⟨mostT m, [], 0⟩, ⟨HP.out.below ba, .inr rfl, ⟨.inl (by omega), by omega⟩, heap_alloc_new w3 _, ?_, ?_, ?_, by simp⟩, rfl, rfl, rfl⟩, ba⟩
  · exact ((((t1.narrow (S' := fun k => w.heap.size ≤ k ∧ k < w1.heap.size) fun k hk z => ⟨z, hk⟩).below b2).below b3).below b4).narrow fun k _ z => ⟨.inl z.1, by omega, by omega, by omega, by omega⟩
  · exact (((t2.narrow (S' := fun k => w1.heap.size ≤ k ∧ k < w2.heap.size) fun k hk z => ⟨z, hk⟩).below b3).below b4).narrow fun k _ z => ⟨.inl (by omega), by omega, by omega, by omega, by omega⟩
  · exact ((t3.narrow (S' := fun k => w2.heap.size ≤ k ∧ k < w3.heap.size) fun k hk z => ⟨z, hk⟩).below b4).narrow fun k _ z => ⟨.inl (by omega), by omega, by omega, by omega, by omega⟩
theorem ro_fld (w : World) (p1 p2 p3 : Option Addr) : (Instr.field TRo (.agg #[.pointer p1, .pointer p2, .pointer p3]) 0).run Tryz.prog w = .ok (.pointer p1) w ∧ (Instr.field TRo (.agg #[.pointer p1, .pointer p2, .pointer p3]) 1).run Tryz.prog w = .ok (.pointer p2) w ∧ (Instr.field TRo (.agg #[.pointer p1, .pointer p2, .pointer p3]) 2).run Tryz.prog w = .ok (.pointer p3) w := ⟨by kernel_rfl, by kernel_rfl, by kernel_rfl⟩
theorem tg_n {m : Nat} {d : Ro} {T2 : Tb SvW} {S : Nat → Prop} {w : World} (hok : RoOk m d) (ht : ∀ r ∈ T2.l, TgAt S w r.val) (e2 : sA T2 = d.s) {r : Rw SvW} (hr : r ∈ T2.l) : r.val.n ≤ 4 := by
  have hm : rwMap (fun v => v.a) r ∈ d.s.l := by rw [← e2]; exact List.mem_map_of_mem hr
  have h1 := tags_len (hok.sr _ hm).2.1.tags
  have h2 := (ht r hr).tx.len
  have h3 : (rwMap (fun v : SvW => v.a) r).val.tags = r.val.a.tags := rfl
  rw [h3] at h1
  omega
set_option maxRecDepth 100000 in
theorem nodes_walk {w : World} {q p1 p2 p3 : Option Addr} {l : List (Rw NdW)} (hn : l.length ≤ 64) (hT : Calls Tryz.prog 43 #[.pointer q] w fun e w' => e = .returned (.agg #[.pointer p1, .pointer p2, .pointer p3]) ∧ Below w.heap.size w w') (hL : ∀ W, Below w.heap.size w W → Calls Tryz.prog 44 #[.pointer p1] W (Nt.New W l)) : Calls Tryz.prog 16 #[.pointer q] w (NewNd w (l.map (rwMap fun v => v.a))) := by
  have HT := Lib.hid hT
  have HL := Lib.hid hL
  have HN := Lib.hid hn
  clear hT hL hn
  go_enter Tryz.func16, Tryz.ntmps16
  go_wp2_with fail
  refine HT.out.mono ?_
  rintro e w1 ⟨rfl, hb⟩
  have HB1 := Lib.hid hb
  have hf := ro_fld w1 p1 p2 p3
  clear hb
  go_wp2_with fail
  clear hf
  refine (HL.out w1 HB1.out).mono ?_
  rintro e w2 ⟨A, c, rfl, hS, _, _, _, hb⟩
  have HS := Lib.hid hS
  have HB2 := Lib.hid (HB1.out.trans (hb.mono HB1.out.size))
  clear hS hb
  obtain ⟨n, hn⟩ : ∃ n, l.length = n := ⟨_, rfl⟩
  have HN' := HN.out
  rw [hn] at HS HN' ⊢
  have HL2 := Lib.hid hn
  clear hn
  go_wp2_with fail
  refine (ofNode_any w2).mono ?_
  rintro e w3 ⟨rfl, hb⟩
  have HB3 := Lib.hid (HB2.out.trans (hb.mono HB2.out.size))
  have HR := Lib.hid (rowsNode_any (c := c) w3 (HS.out.below hb) HN')
  clear hb
  go_wp2_with fail
  refine HR.out.mono ?_
  rintro e w4 ⟨A2, c2, rfl, k1, k2, k3, k4, k5⟩
  have HK := Lib.hid (⟨A2, c2, rfl, k1, k2, k3, fun b off e => Nat.le_trans HB3.out.size (k4 b off e), HB3.out.trans (k5.mono HB3.out.size)⟩ : NewNd w (l.map (rwMap fun v => v.a)) (.returned (.slice A2 (l.map (rwMap fun v => v.a)).length c2)) w4)
  clear k1 k2 k3 k4 k5
  go_wp2
  go_ret
  have := HK.out
  rw [show (Ending.returned (.slice A2 (l.map (rwMap fun v => v.a)).length c2)) = .returned (.slice A2 l.length c2) by rw [List.length_map]] at this
  exact this
theorem rnodes_any {S : Nat → Prop} {w : World} {B B1 B2 B3 m : Nat} {d : Ro} (h : RoAt S w B B1 B2 B3 m d) : Calls Tryz.prog 16 #[.pointer (some ⟨B, 0, none⟩)] w (NewNd w d.n.l) := by
  obtain ⟨hok, T1, T2, T3, h, e1, e2, e3⟩ := h
  have e : d.n.l = T1.l.map (rwMap fun v => v.a) := by rw [← e1]; rfl
  rw [e]
  exact nodes_walk (p1 := some ⟨B1, 0, none⟩) (p2 := some ⟨B2, 0, none⟩) (p3 := some ⟨B3, 0, none⟩) (Nat.le_trans h.t1.1.len h.t1.1.most.2) (tables_is h.ptr) fun W hW => Nt.list_any (h.t1.below hW)
set_option maxRecDepth 100000 in
theorem services_walk {w : World} {q p1 p2 p3 : Option Addr} {l : List (Rw SvW)} (hn : l.length ≤ 64) (ht : ∀ r ∈ l, Tx w r.val.A r.val.n r.val.c r.val.a.tags ∧ r.val.n ≤ 4) (hT : Calls Tryz.prog 43 #[.pointer q] w fun e w' => e = .returned (.agg #[.pointer p1, .pointer p2, .pointer p3]) ∧ Below w.heap.size w w') (hL : ∀ W, Below w.heap.size w W → Calls Tryz.prog 47 #[.pointer p2] W (Vt.New W l)) : Calls Tryz.prog 17 #[.pointer q] w (NewSv w (l.map (rwMap fun v => v.a))) := by
  have HT := Lib.hid hT
  have HL := Lib.hid hL
  have HN := Lib.hid hn
  have HTx := Lib.hid ht
  clear ht
  clear hT hL hn
  go_enter Tryz.func17, Tryz.ntmps17
  go_wp2_with fail
  refine HT.out.mono ?_
  rintro e w1 ⟨rfl, hb⟩
  have HB1 := Lib.hid hb
  have hf := ro_fld w1 p1 p2 p3
  clear hb
  go_wp2_with fail
  clear hf
  refine (HL.out w1 HB1.out).mono ?_
  rintro e w2 ⟨A, c, rfl, hS, _, _, _, hb⟩
  have HS := Lib.hid hS
  have HB2 := Lib.hid (HB1.out.trans (hb.mono HB1.out.size))
  clear hS hb
  obtain ⟨n, hn⟩ : ∃ n, l.length = n := ⟨_, rfl⟩
  have HN' := HN.out
  rw [hn] at HS HN' ⊢
  have HL2 := Lib.hid hn
  clear hn
  go_wp2_with fail
  refine (ofService_any w2).mono ?_
  rintro e w3 ⟨rfl, hb⟩
  have HB3 := Lib.hid (HB2.out.trans (hb.mono HB2.out.size))
  have HR := Lib.hid (rowsService_any (c := c) w3 (HS.out.below hb) (fun r hr => ⟨(HTx.out r hr).1.below HB3.out, (HTx.out r hr).2⟩) HN')
  clear hb
  go_wp2_with fail
  refine HR.out.mono ?_
  rintro e w4 ⟨l', ⟨A2, c2, rfl, k1, k2, k3, k4, k5⟩, k6⟩
  have HK := Lib.hid (⟨l', ⟨A2, c2, rfl, k1, k2, k3, fun b off e => Nat.le_trans HB3.out.size (k4 b off e), HB3.out.trans (k5.mono HB3.out.size)⟩, k6⟩ : NewSv w (l.map (rwMap fun v => v.a)) (.returned (.slice A2 l'.length c2)) w4)
  clear k1 k2 k3 k4 k5 k6
  go_wp2
  go_ret
  exact HK.out
theorem rservices_any {S : Nat → Prop} {w : World} {B B1 B2 B3 m : Nat} {d : Ro} (h : RoAt S w B B1 B2 B3 m d) : Calls Tryz.prog 17 #[.pointer (some ⟨B, 0, none⟩)] w (NewSv w d.s.l) := by
  obtain ⟨hok, T1, T2, T3, h, e1, e2, e3⟩ := h
  have e : d.s.l = T2.l.map (rwMap fun v => v.a) := by rw [← e2]; rfl
  rw [e]
  exact services_walk (p1 := some ⟨B1, 0, none⟩) (p2 := some ⟨B2, 0, none⟩) (p3 := some ⟨B3, 0, none⟩) (Nat.le_trans h.t2.1.len h.t2.1.most.2) (fun r hr => ⟨(h.tg r hr).tx, tg_n hok h.tg e2 hr⟩) (tables_is h.ptr) fun W hW => Vt.list_any (h.t2.below hW)
set_option maxRecDepth 100000 in
theorem checks_walk {w : World} {q p1 p2 p3 : Option Addr} {l : List (Rw CkW)} (hn : l.length ≤ 64) (hT : Calls Tryz.prog 43 #[.pointer q] w fun e w' => e = .returned (.agg #[.pointer p1, .pointer p2, .pointer p3]) ∧ Below w.heap.size w w') (hL : ∀ W, Below w.heap.size w W → Calls Tryz.prog 50 #[.pointer p3] W (Ct.New W l)) : Calls Tryz.prog 18 #[.pointer q] w (NewCk w (l.map (rwMap fun v => v.a))) := by
  have HT := Lib.hid hT
  have HL := Lib.hid hL
  have HN := Lib.hid hn
  clear hT hL hn
  go_enter Tryz.func18, Tryz.ntmps18
  go_wp2_with fail
  refine HT.out.mono ?_
  rintro e w1 ⟨rfl, hb⟩
  have HB1 := Lib.hid hb
  have hf := ro_fld w1 p1 p2 p3
  clear hb
  go_wp2_with fail
  clear hf
  refine (HL.out w1 HB1.out).mono ?_
  rintro e w2 ⟨A, c, rfl, hS, _, _, _, hb⟩
  have HS := Lib.hid hS
  have HB2 := Lib.hid (HB1.out.trans (hb.mono HB1.out.size))
  clear hS hb
  obtain ⟨n, hn⟩ : ∃ n, l.length = n := ⟨_, rfl⟩
  have HN' := HN.out
  rw [hn] at HS HN' ⊢
  have HL2 := Lib.hid hn
  clear hn
  go_wp2_with fail
  refine (ofCheck_any w2).mono ?_
  rintro e w3 ⟨rfl, hb⟩
  have HB3 := Lib.hid (HB2.out.trans (hb.mono HB2.out.size))
  have HR := Lib.hid (rowsCheck_any (c := c) w3 (HS.out.below hb) HN')
  clear hb
  go_wp2_with fail
  refine HR.out.mono ?_
  rintro e w4 ⟨A2, c2, rfl, k1, k2, k3, k4, k5⟩
  have HK := Lib.hid (⟨A2, c2, rfl, k1, k2, k3, fun b off e => Nat.le_trans HB3.out.size (k4 b off e), HB3.out.trans (k5.mono HB3.out.size)⟩ : NewCk w (l.map (rwMap fun v => v.a)) (.returned (.slice A2 (l.map (rwMap fun v => v.a)).length c2)) w4)
  clear k1 k2 k3 k4 k5
  go_wp2
  go_ret
  have := HK.out
  rw [show (Ending.returned (.slice A2 (l.map (rwMap fun v => v.a)).length c2)) = .returned (.slice A2 l.length c2) by rw [List.length_map]] at this
  exact this
theorem rchecks_any {S : Nat → Prop} {w : World} {B B1 B2 B3 m : Nat} {d : Ro} (h : RoAt S w B B1 B2 B3 m d) : Calls Tryz.prog 18 #[.pointer (some ⟨B, 0, none⟩)] w (NewCk w d.c.l) := by
  obtain ⟨hok, T1, T2, T3, h, e1, e2, e3⟩ := h
  have e : d.c.l = T3.l.map (rwMap fun v => v.a) := by rw [← e3]; rfl
  rw [e]
  exact checks_walk (p1 := some ⟨B1, 0, none⟩) (p2 := some ⟨B2, 0, none⟩) (p3 := some ⟨B3, 0, none⟩) (Nat.le_trans h.t3.1.len h.t3.1.most.2) (tables_is h.ptr) fun W hW => Ct.list_any (h.t3.below hW)
def rlaE (X1 : Nat) (X2 : Nat) (p1 : Option Addr) (p2 : Option Addr) (p3 : Option Addr) (a : Nat) (b : Nat) (c : Nat) : Nat → Value
  | 0 => .pointer (some ⟨X1, 0, none⟩)
  | 1 => .pointer p1
  | 2 => .int .u64 (a : Int)
  | 3 => .pointer (some ⟨X1, 1, none⟩)
  | 4 => .pointer p2
  | 5 => .int .u64 (b : Int)
  | 6 => .pointer (some ⟨X1, 2, none⟩)
  | 7 => .pointer p3
  | 8 => .int .u64 (c : Int)
  | 9 => .agg #[.int .u64 (a : Int), .int .u64 (b : Int), .int .u64 (c : Int)]
  | _ => undef
theorem p3_blk {w : World} {b : Nat} {c0 c1 c2 : Value} {t : TypeId} (h : w.heap[b]? = some (.cells #[c0, c1, c2] t (0, 0))) : w.cell? ⟨b, 0, none⟩ = some c0 ∧ w.cell? ⟨b, 1, none⟩ = some c1 ∧ w.cell? ⟨b, 2, none⟩ = some c2 := ⟨cellsN h 0 _ rfl, cellsN h 1 _ rfl, cellsN h 2 _ rfl⟩
set_option maxHeartbeats 4000000 in
set_option maxRecDepth 100000 in
theorem rlast_walk {w : World} {q p1 p2 p3 : Option Addr} {a b c : Nat} (hT : ∀ W, Below w.heap.size w W → Calls Tryz.prog 43 #[.pointer q] W fun e w' => e = .returned (.agg #[.pointer p1, .pointer p2, .pointer p3]) ∧ Below W.heap.size W w')
    (h1 : ∀ W, Below w.heap.size w W → Calls Tryz.prog 68 #[.pointer p1] W fun e w' => e = .returned (.int .u64 (a : Int)) ∧ W = w') (h2 : ∀ W, Below w.heap.size w W → Calls Tryz.prog 69 #[.pointer p2] W fun e w' => e = .returned (.int .u64 (b : Int)) ∧ W = w') (h3 : ∀ W, Below w.heap.size w W → Calls Tryz.prog 70 #[.pointer p3] W fun e w' => e = .returned (.int .u64 (c : Int)) ∧ W = w') :
    Calls Tryz.prog 27 #[.pointer q] w fun e w' => e = .returned (.agg #[.int .u64 (a : Int), .int .u64 (b : Int), .int .u64 (c : Int)]) ∧ Below w.heap.size w w' := by
  obtain ⟨X2, hX2⟩ : ∃ X2, w.heap.size = X2 := ⟨_, rfl⟩
  have b0 := below1 w #[.int .u64 0, .int .u64 0, .int .u64 0] 55
  have k0 := heap_alloc_new w (.cells #[.int .u64 0, .int .u64 0, .int .u64 0] 55)
  obtain ⟨w1, hw1⟩ : ∃ w1, w.alloc (.cells #[.int .u64 0, .int .u64 0, .int .u64 0] 55) = w1 := ⟨_, rfl⟩
  rw [hw1] at b0 k0
  rw [hX2] at k0
  have HT := Lib.hid (hT w1 b0)
  have HB0 := Lib.hid b0
  have HK0 := Lib.hid k0
  have HW1 := Lib.hid hw1
  have HX2 := Lib.hid hX2
  have G1 := Lib.hid h1
  have G2 := Lib.hid h2
  have G3 := Lib.hid h3
  clear hT h1 h2 h3 hX2 b0 k0 hw1
  go_enter Tryz.func27, Tryz.ntmps27
  go_wp2_with fail
  rw [HW1.out, HX2.out]
  refine HT.out.mono ?_
  rintro e w2 ⟨rfl, hb⟩
  obtain ⟨X1, hX1⟩ : ∃ X1, w2.heap.size = X1 := ⟨_, rfl⟩
  have b2 := below1 w2 #[.pointer p1, .pointer p2, .pointer p3] TRo
  have k1 := heap_alloc_new w2 (.cells #[.pointer p1, .pointer p2, .pointer p3] TRo)
  have k2 := (b2.block X2 (Nat.lt_of_lt_of_le (block_lt HK0.out) hb.size)).trans ((hb.block X2 (block_lt HK0.out)).trans HK0.out)
  have HB : Hid (Below w.heap.size w (w2.alloc (.cells #[.pointer p1, .pointer p2, .pointer p3] TRo))) := Lib.hid (HB0.out.trans ((hb.trans (b2.mono hb.size)).mono HB0.out.size))
  clear hb b2 HT
  go_wp2_with fail
  obtain ⟨W0, hW0⟩ : ∃ W0, w2.alloc (.cells #[.pointer p1, .pointer p2, .pointer p3] TRo) = W0 := ⟨_, rfl⟩
  rw [hW0] at HB k1 k2
  rw [hX1] at k1
  have HK1 := Lib.hid k1
  have HK2 := Lib.hid k2
  have HL1 := Lib.hid (block_lt k1)
  have HL2 := Lib.hid (block_lt k2)
  have HM2 : Hid (∀ k, k = X2 → k < W0.heap.size) := Lib.hid fun k e => by rw [e]; exact block_lt k2
  have H1 := Lib.hid (fun W (hW : Below W0.heap.size W0 W) => G1.out W (HB.out.trans (hW.mono HB.out.size)))
  have H2 := Lib.hid (fun W (hW : Below W0.heap.size W0 W) => G2.out W (HB.out.trans (hW.mono HB.out.size)))
  have H3 := Lib.hid (fun W (hW : Below W0.heap.size W0 W) => G3.out W (HB.out.trans (hW.mono HB.out.size)))
  rw [hW0]
  clear k1 k2 hW0 hX1 G1 G2 G3
  have hre : ∀ w : World, (But (OldB W0)) w w := (fun w => But.refl _ w)
  have hrd : ∀ (f : Nat → Bool) w i, i ≠ 10 → (TI 10 W0 (fun w => w.heap[X2]? = some (.cells #[.int .u64 (a : Int), .int .u64 (b : Int), .int .u64 (c : Int)] 55 (0, 0)) ∧ But (· = X2) W0 w)) f w → (TI 10 W0 (fun w => w.heap[X2]? = some (.cells #[.int .u64 (a : Int), .int .u64 (b : Int), .int .u64 (c : Int)] 55 (0, 0)) ∧ But (· = X2) W0 w)) (Go.Rel.upd f i) w := (fun _ _ _ hi h => h.read hi)
  refine Go.Rel.wp_tab (by kernel_rfl) (by kernel_rfl) (TI 10 W0 (fun w => w.heap[X2]? = some (.cells #[.int .u64 (a : Int), .int .u64 (b : Int), .int .u64 (c : Int)] 55 (0, 0)) ∧ But (· = X2) W0 w)) (But (OldB W0)) hre ((fun _ _ _ h k => h.trans k)) (OldB.drew) TI.start (rlaE X1 X2 p1 p2 p3 a b c) (fun _ _ _ => True) (fun i => ([] : List Nat).contains i) (fun i => ([1, 2, 4, 5, 7, 8, 10] : List Nat).contains i) (by kernel_rfl) (fun _ _ _ _ h _ => h) 10 rfl hrd ?_ (Go.Rel.AllOf.get ?_) ?_
  · repeat (refine .cons (by first | exact Go.Rel.pure_sp rfl | exact Go.Rel.pure_yes (by kernel_rfl) (fun _ => by kernel_rfl) | exact Go.Rel.pure_no (by kernel_rfl) rfl) ?_)
    exact .nil
  · refine ⟨?_, ?_, ?_, ?_, ?_, ?_, ?_, trivial⟩
    · exact SpecOk.ld hrd hre (q := .pointer (some ⟨X1, 0, none⟩)) (h := fun _ w' hI _ hdesc _ _ => by have cc := p3_blk (((hI.ahead (hdesc 60 10 (by kernel_rfl))).block X1 HL1.out).trans HK1.out); go_simp; rfl)
    · refine SpecOk.gen (fun e => [(7, .pointer p1)]) rfl rfl (fun _ => by kernel_rfl) fun f w' e hI hf hdesc hanc hle hX K hK => ?_
      go_simp
      have zL : f 10 = false := hdesc 60 10 (by kernel_rfl)
      refine (H1.out w' (hI.ahead zL)).mono ?_
      rintro e w2 ⟨rfl, rfl⟩
      exact hK _ _ (But.refl _ _) (hI.read (by decide)) rfl
    · exact SpecOk.ld hrd hre (q := .pointer (some ⟨X1, 1, none⟩)) (h := fun _ w' hI _ hdesc _ _ => by have cc := p3_blk (((hI.ahead (hdesc 60 10 (by kernel_rfl))).block X1 HL1.out).trans HK1.out); go_simp; rfl)
    · refine SpecOk.gen (fun e => [(10, .pointer p2)]) rfl rfl (fun _ => by kernel_rfl) fun f w' e hI hf hdesc hanc hle hX K hK => ?_
      go_simp
      have zL : f 10 = false := hdesc 60 10 (by kernel_rfl)
      refine (H2.out w' (hI.ahead zL)).mono ?_
      rintro e w2 ⟨rfl, rfl⟩
      exact hK _ _ (But.refl _ _) (hI.read (by decide)) rfl
    · exact SpecOk.ld hrd hre (q := .pointer (some ⟨X1, 2, none⟩)) (h := fun _ w' hI _ hdesc _ _ => by have cc := p3_blk (((hI.ahead (hdesc 60 10 (by kernel_rfl))).block X1 HL1.out).trans HK1.out); go_simp; rfl)
    · refine SpecOk.gen (fun e => [(13, .pointer p3)]) rfl rfl (fun _ => by kernel_rfl) fun f w' e hI hf hdesc hanc hle hX K hK => ?_
      go_simp
      have zL : f 10 = false := hdesc 60 10 (by kernel_rfl)
      refine (H3.out w' (hI.ahead zL)).mono ?_
      rintro e w2 ⟨rfl, rfl⟩
      exact hK _ _ (But.refl _ _) (hI.read (by decide)) rfl
    · refine SpecOk.gen (fun e => [(2, .pointer (some ⟨X2, 0, none⟩)), (15, .agg #[.int .u64 (a : Int), .int .u64 (b : Int), .int .u64 (c : Int)])]) rfl rfl (fun _ => by kernel_rfl) fun f w' e hI hf hdesc hanc hle hX K hK => ?_
      have k2 := ((hI.ahead hf).block X2 HL2.out).trans HK2.out
      have d := p3_blk k2
      have z0 := blk_froz k2 0
      have z1 := blk_froz k2 1
      have z2 := blk_froz k2 2
      have lx := block_lt k2
      go_simp
      exact hK undef _ (But.oldB (but_setL X2 [.int .u64 (a : Int), .int .u64 (b : Int), .int .u64 (c : Int)] 0 w') HM2.out) (TI.last ⟨setL_all k2 [.int .u64 (a : Int), .int .u64 (b : Int), .int .u64 (c : Int)] rfl, (But.of_below (hI.ahead hf)).trans (but_setL X2 [.int .u64 (a : Int), .int .u64 (b : Int), .int .u64 (c : Int)] 0 w')⟩) rfl
  · intro f w3 e hall hJ hle hv
    obtain ⟨hx, hbx⟩ := hJ.done_ (hall 10 (by decide))
    simp only [Go.Rel.finL, List.setIfInBounds_toArray, List.set_cons_succ, List.set_cons_zero]
    obtain ⟨q0, q1, q2⟩ := p3_blk hx
    clear hv hall hle hJ
    go_wp2
    refine bodyPost_ret (v := .agg #[.int .u64 (a : Int), .int .u64 (b : Int), .int .u64 (c : Int)]) (by simp [results, Tryz.results27, go_sem, q0, q1, q2]) rfl ⟨rfl, HB.out.trans (hbx.below (by have := HB.out.size; omega) fun k hk e => by have := HX2.out; omega)⟩
theorem rlast_any {S : Nat → Prop} {w : World} {B B1 B2 B3 m : Nat} {d : Ro} (h : RoAt S w B B1 B2 B3 m d) : Calls Tryz.prog 27 #[.pointer (some ⟨B, 0, none⟩)] w fun e w' => e = .returned (.agg #[.int .u64 (d.n.last : Int), .int .u64 (d.s.last : Int), .int .u64 (d.c.last : Int)]) ∧ Below w.heap.size w w' := by
  obtain ⟨hok, T1, T2, T3, h, e1, e2, e3⟩ := h
  rw [← e1, ← e2, ← e3]
  exact rlast_walk (fun W hW => tables_is (h.below hW).ptr) (fun W hW => Nt.last_any (h.below hW).t1) (fun W hW => Vt.last_any (h.below hW).t2) fun W hW => Ct.last_any (h.below hW).t3
end Go.Proofs.YtilkbfmaofmjoaaGreatDoor
namespace Go.Proofs.YtilkbfmaofmjoaaGreatDoor
open Go.RowKit Go.Rel
set_option linter.unusedSimpArgs false
set_option linter.unusedVariables false
section
variable {w : World} {p : Option Addr}
end
end Go.Proofs.YtilkbfmaofmjoaaGreatDoor
namespace Go.Proofs.YtilkbfmaofmjoaaGreatDoor
open Go.RowKit Go.Rel
set_option linter.unusedSimpArgs false
set_option linter.unusedVariables false
def OfPost (w : World) (nv nc : Nat) (ls : List (Rw SvA)) (lc : List (Rw CkA)) (e : Ending) (w' : World) : Prop := ∃ A1 c1 l1 A2 c2, e = .returned (.tuple #[.slice A1 nv c1, .slice A2 nc c2]) ∧ SK svC 7 w' A1 nv l1 ∧ SvL w' l1 ls ∧ SK ckC 7 w' A2 nc lc ∧ Below w.heap.size w w'
def rofE (Xt : Nat) (k : ByteArray) (p2 : Option Addr) (p3 : Option Addr) : Nat → Value
  | 0 => .pointer (some ⟨Xt, 1, none⟩)
  | 1 => .pointer p2
  | 2 | 8 => .string k
  | 4 => .agg #[.func (.func 92) #[] #[], .func (.func 93) #[] #[]]
  | 6 => .pointer (some ⟨Xt, 2, none⟩)
  | 7 => .pointer p3
  | 10 => .agg #[.func (.func 96) #[] #[], .func (.func 97) #[] #[]]
  | _ => undef
set_option maxHeartbeats 4000000 in
set_option maxRecDepth 100000 in
theorem rof_walk {w : World} {q p1 p2 p3 : Option Addr} {lv : List (Rw SvW)} {lc : List (Rw CkW)} (node : Int) (hn : -9223372036854775808 ≤ node ∧ node ≤ 9223372036854775807) (hp : PwIs w) (hnv : lv.length ≤ 64) (hnc : lc.length ≤ 64) (ht : ∀ r ∈ lv, Tx w r.val.A r.val.n r.val.c r.val.a.tags ∧ r.val.n ≤ 4)
    (hT : ∀ W, Below w.heap.size w W → Calls Tryz.prog 43 #[.pointer q] W fun e w' => e = .returned (.agg #[.pointer p1, .pointer p2, .pointer p3]) ∧ Below W.heap.size W w')
    (hU : ∀ W, Below w.heap.size w W → Calls Tryz.prog 53 #[.pointer p2, .string (keyO node noT)] W (Vt.New W lv)) (hC : ∀ W, Below w.heap.size w W → Calls Tryz.prog 54 #[.pointer p3, .string (keyO node noT)] W (Ct.New W lc)) :
    Calls Tryz.prog 19 #[.pointer q, .int .i64 node] w (OfPost w lv.length lc.length (lv.map (rwMap fun v => v.a)) (lc.map (rwMap fun v => v.a))) := by
  have HKy := Lib.hid (rkey_any node noT w hn (by decide) hp)
  have HT := Lib.hid hT
  have G1 := Lib.hid hU
  have G2 := Lib.hid hC
  have HTx := Lib.hid ht
  obtain ⟨nv, hv⟩ : ∃ nv, lv.length = nv := ⟨_, rfl⟩
  obtain ⟨nc, hc⟩ : ∃ nc, lc.length = nc := ⟨_, rfl⟩
  rw [hv, hc]
  rw [hv] at hnv
  rw [hc] at hnc
  have HN := Lib.hid (And.intro hv (And.intro hc (And.intro hnv hnc)))
  clear hn hp hT hU hC ht hv hc hnv hnc
  go_enter Tryz.func19, Tryz.ntmps19
  go_wp2_with fail
  refine HKy.out.mono ?_
  rintro e w1 ⟨rfl, hb⟩
  obtain ⟨k, hk⟩ : ∃ k, keyO node noT = k := ⟨_, rfl⟩
  have HB1 := Lib.hid hb
  rw [hk] at G1 G2 ⊢
  clear hb hk
  go_wp2_with fail
  refine (HT.out w1 HB1.out).mono ?_
  rintro e w2 ⟨rfl, hb⟩
  obtain ⟨Xt, hXt⟩ : ∃ Xt, w2.heap.size = Xt := ⟨_, rfl⟩
  have b2 := below1 w2 #[.pointer p1, .pointer p2, .pointer p3] TRo
  have k2 := heap_alloc_new w2 (.cells #[.pointer p1, .pointer p2, .pointer p3] TRo)
  have HB : Hid (Below w.heap.size w (w2.alloc (.cells #[.pointer p1, .pointer p2, .pointer p3] TRo))) := Lib.hid (HB1.out.trans ((hb.trans (b2.mono hb.size)).mono HB1.out.size))
  clear hb b2 HT
  go_wp2_with fail
  obtain ⟨W0, hW0⟩ : ∃ W0, w2.alloc (.cells #[.pointer p1, .pointer p2, .pointer p3] TRo) = W0 := ⟨_, rfl⟩
  rw [hW0] at HB k2
  rw [hXt] at k2
  have HKt := Lib.hid k2
  have HLt := Lib.hid (block_lt k2)
  have HUv := Lib.hid (fun W (hW : Below W0.heap.size W0 W) => (by
    refine (G1.out W (HB.out.trans (hW.mono HB.out.size))).mono fun e w' ⟨A, c, q1, q2, _, _, _, q3⟩ => ⟨A, c, q1, q2, q3⟩ : Calls Tryz.prog 53 #[.pointer p2, .string k] W fun e w' => ∃ A c, e = .returned (.slice A lv.length c) ∧ SK Vt.trC 10 w' A lv.length lv ∧ Below W.heap.size W w'))
  have HUc := Lib.hid (fun W (hW : Below W0.heap.size W0 W) => (by
    refine (G2.out W (HB.out.trans (hW.mono HB.out.size))).mono fun e w' ⟨A, c, q1, q2, _, _, _, q3⟩ => ⟨A, c, q1, q2, q3⟩ : Calls Tryz.prog 54 #[.pointer p3, .string k] W fun e w' => ∃ A c, e = .returned (.slice A lc.length c) ∧ SK Ct.trC 10 w' A lc.length lc ∧ Below W.heap.size W w'))
  have HOv := Lib.hid ofService_any
  have HOc := Lib.hid ofCheck_any
  have HRv := Lib.hid (fun W (hW : Below W0.heap.size W0 W) A c (hS : SK Vt.trC 10 W A nv lv) => (by
    have := rowsService_any (c := c) W hS (fun r hr => ⟨(HTx.out r hr).1.below (HB.out.trans (hW.mono HB.out.size)), (HTx.out r hr).2⟩) HN.out.2.2.1
    refine this.mono fun e w' ⟨l', ⟨A2, c2, q1, q2, _, _, _, q3⟩, q4⟩ => ⟨A2, c2, l', ?_, ?_, q4, q3⟩
    · rw [q1, q4.len, List.length_map, HN.out.1]
    · rw [q4.len, List.length_map, HN.out.1] at q2; exact q2 : Calls Tryz.prog 46 #[.slice A nv c, kdService] W fun e w' => ∃ A2 c2 l', e = .returned (.slice A2 nv c2) ∧ SK svC 7 w' A2 nv l' ∧ SvL w' l' (lv.map (rwMap fun v => v.a)) ∧ Below W.heap.size W w'))
  have HRc := Lib.hid (fun W (hW : Below W0.heap.size W0 W) A c (hS : SK Ct.trC 10 W A nc lc) => (by
    have := rowsCheck_any (c := c) W hS HN.out.2.2.2
    refine this.mono fun e w' ⟨A2, c2, q1, q2, _, _, _, q3⟩ => ⟨A2, c2, ?_, ?_, q3⟩
    · rw [q1, List.length_map, HN.out.2.1]
    · rw [List.length_map, HN.out.2.1] at q2; exact q2 : Calls Tryz.prog 49 #[.slice A nc c, kdCheck] W fun e w' => ∃ A2 c2, e = .returned (.slice A2 nc c2) ∧ SK ckC 7 w' A2 nc (lc.map (rwMap fun v => v.a)) ∧ Below W.heap.size W w'))
  rw [HN.out.1] at HUv
  rw [HN.out.2.1] at HUc
  unfold kdService at HOv HRv
  unfold kdCheck at HOc HRc
  rw [hW0]
  clear k2 hW0 hXt G1 G2
  have hre : ∀ w : World, ((fun a b : World => Below a.heap.size a b)) w w := (fun w => Below.refl _ w)
  have hrd : ∀ (f : Nat → Bool) w i, i ≠ 3 → (fun (_ : Nat → Bool) (w : World) => Below W0.heap.size W0 w) f w → (fun (_ : Nat → Bool) (w : World) => Below W0.heap.size W0 w) (Go.Rel.upd f i) w := (fun _ _ _ _ h => h)
  refine Go.Rel.wp_tab (by kernel_rfl) (by kernel_rfl) (fun (_ : Nat → Bool) (w : World) => Below W0.heap.size W0 w) ((fun a b : World => Below a.heap.size a b)) hre ((fun _ _ _ h k => h.trans (k.mono h.size))) ((⟨rfl, rfl, rfl, Nat.le_refl _, fun _ _ => rfl⟩)) ⟨rfl, rfl, rfl, Nat.le_refl _, fun _ _ => rfl⟩ (rofE Xt k p2 p3) (fun | 3, v, w => ∃ A c, v = .slice A nv c ∧ SK Vt.trC 10 w A nv lv | 5, v, w => ∃ A c l', v = .slice A nv c ∧ SK svC 7 w A nv l' ∧ SvL w l' (lv.map (rwMap fun v => v.a)) | 9, v, w => ∃ A c, v = .slice A nc c ∧ SK Ct.trC 10 w A nc lc | 11, v, w => ∃ A c, v = .slice A nc c ∧ SK ckC 7 w A nc (lc.map (rwMap fun v => v.a)) | 12, v, w => ∃ A c l', v = .slice A nv c ∧ SK svC 7 w A nv l' ∧ SvL w l' (lv.map (rwMap fun v => v.a)) | 13, v, w => ∃ A c, v = .slice A nc c ∧ SK ckC 7 w A nc (lc.map (rwMap fun v => v.a)) | _, _, _ => True) (fun i => ([3, 5, 9, 11, 12, 13] : List Nat).contains i) (fun i => ([1, 3, 4, 5, 7, 9, 10, 11, 12, 13] : List Nat).contains i) (by kernel_rfl) (fun i v w w' h g => by revert h; split <;> intro h <;> first | exact h | trivial | (obtain ⟨A, c, e, k⟩ := h; exact ⟨A, c, e, k.below g⟩) | (obtain ⟨A, c, l', e, k1, k2⟩ := h; exact ⟨A, c, l', e, k1.below g, k2.below g⟩)) 3 rfl hrd ?_ (Go.Rel.AllOf.get ?_) ?_
  · repeat (refine .cons (by first | exact Go.Rel.pure_sp rfl | exact Go.Rel.pure_yes (by kernel_rfl) (fun _ => by kernel_rfl) | exact Go.Rel.pure_no (by kernel_rfl) rfl) ?_)
    exact .nil
  · refine ⟨?_, ?_, ?_, ?_, ?_, ?_, ?_, ?_, ?_, ?_, trivial⟩
    · exact SpecOk.ld hrd hre (q := .pointer (some ⟨Xt, 1, none⟩)) (h := fun _ w' hI _ _ _ _ => by have cc := p3_blk ((hI.block Xt HLt.out).trans HKt.out); go_simp; rfl)
    · refine SpecOk.call 53 #[.pointer p2, .string k] rfl (by kernel_rfl) (fun _ => by kernel_rfl) fun _ w' hI _ _ _ _ => ?_
      refine (HUv.out w' hI).mono ?_
      rintro e9 w9 ⟨A9, c9, rfl, s9, hb9⟩
      exact ⟨_, rfl, hb9, (hI.trans (hb9.mono hI.size)), ⟨A9, c9, rfl, s9⟩⟩
    · refine SpecOk.call 48 #[] rfl (by kernel_rfl) (fun _ => by kernel_rfl) fun _ w' hI _ _ _ _ => ?_
      refine (HOv.out w').mono ?_
      rintro e9 w9 ⟨rfl, hb9⟩
      exact ⟨_, rfl, hb9, (hI.trans (hb9.mono hI.size)), rfl⟩
    · refine SpecOk.gen (fun e => [(15, e 3), (16, .agg #[.func (.func 92) #[] #[], .func (.func 93) #[] #[]])]) rfl rfl (fun _ => by kernel_rfl) fun f w' e hI hf hdesc hanc hle hX K hK => ?_
      obtain ⟨A3, c3, e3, s3⟩ := hX 3 rfl rfl
      simp only [e3]
      go_simp
      refine (HRv.out w' hI A3 c3 s3).mono ?_
      rintro e9 w9 ⟨A9, c9, l9, rfl, k1, k2, hb9⟩
      exact hK _ _ hb9 (hI.trans (hb9.mono hI.size)) ⟨A9, c9, l9, rfl, k1, k2⟩
    · exact SpecOk.ld hrd hre (q := .pointer (some ⟨Xt, 2, none⟩)) (h := fun _ w' hI _ _ _ _ => by have cc := p3_blk ((hI.block Xt HLt.out).trans HKt.out); go_simp; rfl)
    · refine SpecOk.call 54 #[.pointer p3, .string k] rfl (by kernel_rfl) (fun _ => by kernel_rfl) fun _ w' hI _ _ _ _ => ?_
      refine (HUc.out w' hI).mono ?_
      rintro e9 w9 ⟨A9, c9, rfl, s9, hb9⟩
      exact ⟨_, rfl, hb9, (hI.trans (hb9.mono hI.size)), ⟨A9, c9, rfl, s9⟩⟩
    · refine SpecOk.call 51 #[] rfl (by kernel_rfl) (fun _ => by kernel_rfl) fun _ w' hI _ _ _ _ => ?_
      refine (HOc.out w').mono ?_
      rintro e9 w9 ⟨rfl, hb9⟩
      exact ⟨_, rfl, hb9, (hI.trans (hb9.mono hI.size)), rfl⟩
    · refine SpecOk.gen (fun e => [(21, e 9), (22, .agg #[.func (.func 96) #[] #[], .func (.func 97) #[] #[]])]) rfl rfl (fun _ => by kernel_rfl) fun f w' e hI hf hdesc hanc hle hX K hK => ?_
      obtain ⟨A9, c9, e9, s9⟩ := hX 9 rfl rfl
      simp only [e9]
      go_simp
      refine (HRc.out w' hI A9 c9 s9).mono ?_
      rintro e9 w9 ⟨A9, c9, rfl, k1, hb9⟩
      exact hK _ _ hb9 (hI.trans (hb9.mono hI.size)) ⟨A9, c9, rfl, k1⟩
    · refine SpecOk.gen (fun e => [(17, e 5)]) rfl rfl (fun _ => by kernel_rfl) fun f w' e hI hf hdesc hanc hle hX K hK => ?_
      obtain ⟨A5, c5, l5, e5, s5, t5⟩ := hX 5 rfl rfl
      simp only [e5]
      go_simp
      exact hK _ _ (Below.refl _ _) hI ⟨A5, c5, l5, rfl, s5, t5⟩
    · refine SpecOk.gen (fun e => [(23, e 11)]) rfl rfl (fun _ => by kernel_rfl) fun f w' e hI hf hdesc hanc hle hX K hK => ?_
      obtain ⟨A11, c11, e11, s11⟩ := hX 11 rfl rfl
      simp only [e11]
      go_simp
      exact hK _ _ (Below.refl _ _) hI ⟨A11, c11, rfl, s11⟩
  · intro f w3 e hall hJ hle hv
    obtain ⟨A1, c1, l1, v1, s1, t1⟩ := hv 12 rfl
    obtain ⟨A2, c2, v2, s2⟩ := hv 13 rfl
    simp only [Go.Rel.finL, List.setIfInBounds_toArray, List.set_cons_succ, List.set_cons_zero]
    rw [show e 12 = .slice A1 nv c1 from v1, show e 13 = .slice A2 nc c2 from v2]
    have HS := Lib.hid (And.intro s1 (And.intro t1 s2))
    have HJ := Lib.hid hJ
    clear hv hall hle hJ v1 v2 s1 s2 t1
    go_wp2
    go_ret2
    exact ⟨A1, c1, l1, A2, c2, rfl, HS.out.1, HS.out.2.1, HS.out.2.2, HB.out.trans (HJ.out.mono HB.out.size)⟩
end Go.Proofs.YtilkbfmaofmjoaaGreatDoor
namespace Go.Proofs.YtilkbfmaofmjoaaGreatDoor
open Go.RowKit
set_option linter.unusedSimpArgs false
set_option linter.unusedVariables false
theorem worst_snoc (svc : ByteArray) (m : Int) (l : List (Rw CkA)) (x : Rw CkA) : worst svc m (l ++ [x]) = if forSvc svc x.val then max (worst svc m l) x.val.status else worst svc m l := by
  unfold worst
  rw [List.foldl_append]
  rfl
def Ro.svcOf (d : Ro) (node : Int) : List (Rw SvA) := d.s.l.filter fun r => decide (r.val.node = node)
def Ro.chkOf (d : Ro) (node : Int) : List (Rw CkA) := d.c.l.filter fun r => decide (r.val.node = node)
theorem RoOk.und_s {m : Nat} {d : Ro} (h : RoOk m d) (node : Int) : undR d.s.l (keyO node noT) = d.svcOf node := by
  unfold undR Ro.svcOf
  apply List.filter_congr
  intro r hr
  obtain ⟨a, b, _⟩ := h.sr r hr
  rw [a]
  exact und_is b.node
theorem RoOk.und_c {m : Nat} {d : Ro} (h : RoOk m d) (node : Int) : undR d.c.l (keyO node noT) = d.chkOf node := by
  unfold undR Ro.chkOf
  apply List.filter_congr
  intro r hr
  obtain ⟨a, b, _⟩ := h.cr r hr
  rw [a]
  exact und_is b.node
theorem key_sz {node : Int} (h : -9223372036854775808 ≤ node ∧ node ≤ 9223372036854775807) : (keyO node noT).size ≤ maxLen := by
  have h2 := Lib.itoa_length_le node h.1 h.2
  have e : (keyO node noT).size = (Lib.itoa node).length + 1 := by
    rw [← data_len, keyO_list]
    unfold keyL
    simp
  rw [e]
  unfold maxLen
  omega
theorem rof_any {S : Nat → Prop} {w : World} {B B1 B2 B3 m : Nat} {d : Ro} (node : Int) (h : RoAt S w B B1 B2 B3 m d) (hn : -9223372036854775808 ≤ node ∧ node ≤ 9223372036854775807) : Calls Tryz.prog 19 #[.pointer (some ⟨B, 0, none⟩), .int .i64 node] w fun e w' => OfPost w (d.svcOf node).length (d.chkOf node).length (d.svcOf node) (d.chkOf node) e w' := by
  obtain ⟨hok, T1, T2, T3, h, e1, e2, e3⟩ := h
  have g2 : d.svcOf node = (undR T2.l (keyO node noT)).map (rwMap fun v => v.a) := by
    rw [← hok.und_s, ← e2]
    exact undR_map _ _ _
  have g3 : d.chkOf node = (undR T3.l (keyO node noT)).map (rwMap fun v => v.a) := by
    rw [← hok.und_c, ← e3]
    exact undR_map _ _ _
  have l2 := Nat.le_trans (und_length T2.l (keyO node noT)) (Nat.le_trans h.t2.1.len h.t2.1.most.2)
  have l3 := Nat.le_trans (und_length T3.l (keyO node noT)) (Nat.le_trans h.t3.1.len h.t3.1.most.2)
  rw [g2, g3, List.length_map, List.length_map]
  exact rof_walk (p1 := some ⟨B1, 0, none⟩) (p2 := some ⟨B2, 0, none⟩) (p3 := some ⟨B3, 0, none⟩) node hn h.pw l2 l3 (fun r hr => ⟨(h.tg r (List.mem_filter.1 hr).1).tx, tg_n hok h.tg e2 (List.mem_filter.1 hr).1⟩) (fun W hW => tables_is (h.below hW).ptr) (fun W hW => Vt.under_t _ (h.below hW).t2 (key_sz hn)) fun W hW => Ct.under_t _ (h.below hW).t3 (key_sz hn)
set_option maxHeartbeats 4000000 in
set_option maxRecDepth 100000 in
theorem rhealth_walk {w : World} {q : Option Addr} {nv nc : Nat} {ls : List (Rw SvA)} {lc : List (Rw CkA)} (node : Int) (svc : ByteArray) (hnc : nc ≤ 64) (hO : Calls Tryz.prog 19 #[.pointer q, .int .i64 node] w fun e w' => OfPost w nv nc ls lc e w') : Calls Tryz.prog 13 #[.pointer q, .int .i64 node, .string svc] w fun e w' => e = .returned (.int .i64 (worst svc 0 lc)) ∧ Below w.heap.size w w' := by
  have HO := Lib.hid hO
  clear hO
  go_enter Tryz.func13, Tryz.ntmps13
  go_wp2_with fail
  refine HO.out.mono ?_
  rintro e w1 ⟨A1, c1, l1, A2, c2, rfl, _, _, hS, hb⟩
  have HS := Lib.hid hS
  have HL := Lib.hid hS.1
  have HB := Lib.hid hb
  clear hS hb HO
  go_wp2_with fail
  go_loopw [7, 20] (fun vv iv wr => ∃ k : Nat, k ≤ nc ∧ iv = .int .i64 (k : Int) ∧ vv = .int .i64 (worst svc 0 (lc.take k)) ∧ Hid (Below w1.heap.size w1 wr)) (fun _ iv _ => nc - (intOf iv).toNat)
  case atStart => exact ⟨0, Nat.zero_le _, rfl, rfl, Lib.hid (Below.refl _ _)⟩
  case round =>
    obtain ⟨k, hk, rfl, rfl, hb⟩ := hrel
    by_cases hlt : k < nc
    · have hkl : k < lc.length := by rw [HL.out]; exact hlt
      obtain ⟨b, off, rfl, hbl, hit⟩ := (HS.out.below hb.out).at_ hlt hkl
      have hst : worst svc 0 (lc.take (k + 1)) = if forSvc svc lc[k].val then max (worst svc 0 (lc.take k)) lc[k].val.status else worst svc 0 (lc.take k) := by rw [List.take_succ_eq_append_getElem hkl, worst_snoc]
      obtain ⟨x, hx⟩ : ∃ x, lc[k] = x := ⟨_, rfl⟩
      rw [hx] at hit hst
      obtain ⟨wv, hwv⟩ : ∃ wv, worst svc 0 (lc.take k) = wv := ⟨_, rfl⟩
      rw [hwv] at hst ⊢
      have cc := ck_cells hit
      have HB2 : Hid (Below w1.heap.size w1 (wr.alloc (.cells #[.int .i64 x.val.node, .string x.val.id, .string x.val.svc, .string x.val.note, .int .i64 x.val.status, .int .u64 (x.made : Int), .int .u64 (x.ix : Int)] TCk))) := Lib.hid (hb.out.alloc hb.out.size _)
      by_cases q1 : x.val.svc = noT
      · have hq : x.val.svc.toList = [] := by rw [q1]; exact noT_list
        have hf : forSvc svc x.val = true := by unfold forSvc; rw [text_same.2 q1]; rfl
        rw [hf, if_pos rfl] at hst
        have HSt := Lib.hid hst
        clear hit hst hx hwv hf q1
        go_wp2
        go_roundw
        case rel => exact ⟨k + 1, by omega, by go_num, by rw [HSt.out], HB2⟩
        case measure => simp [intOf]; omega
      · have hq : ¬ x.val.svc.toList = [] := fun e => q1 (text_same.1 (by rw [e, noT_list]; rfl))
        have hqi : x.val.svc.toList.isEmpty = false := by rw [Bool.eq_false_iff]; exact fun e => hq (by simpa using e)
        cases q2 : (x.val.svc.toList == svc.toList) with
        | true =>
          have hf : forSvc svc x.val = true := by unfold forSvc; rw [q2]; simp
          rw [hf, if_pos rfl] at hst
          have HSt := Lib.hid hst
          clear hit hst hx hwv hf q1
          go_wp2
          go_roundw
          case rel => exact ⟨k + 1, by omega, by go_num, by rw [HSt.out], HB2⟩
          case measure => simp [intOf]; omega
        | false =>
          have hf : forSvc svc x.val = false := by unfold forSvc; rw [q2, text_other.2 q1]; rfl
          rw [hf, if_neg (by simp)] at hst
          have HSt := Lib.hid hst
          clear hit hst hx hwv hf q1
          go_wp2
          go_roundw
          case rel => exact ⟨k + 1, by omega, by go_num, by rw [HSt.out], HB2⟩
          case measure => simp [intOf]; omega
    · obtain rfl : k = nc := by omega
      have ht : lc.take k = lc := List.take_of_length_le (by rw [HL.out]; omega)
      rw [ht]
      clear ht
      go_wp2
      go_ret
      exact ⟨rfl, HB.out.trans (hb.out.mono HB.out.size)⟩
theorem rhealth_any {S : Nat → Prop} {w : World} {B B1 B2 B3 m : Nat} {d : Ro} (node : Int) (svc : ByteArray) (h : RoAt S w B B1 B2 B3 m d) (hn : -9223372036854775808 ≤ node ∧ node ≤ 9223372036854775807) : Calls Tryz.prog 13 #[.pointer (some ⟨B, 0, none⟩), .int .i64 node, .string svc] w fun e w' => e = .returned (.int .i64 (d.health node svc)) ∧ Below w.heap.size w w' :=
  rhealth_walk node svc (Nat.le_trans (List.length_filter_le _ _) (Nat.le_trans h.ok.cok.len h.ok.cok.most.2)) (rof_any node h hn)
end Go.Proofs.YtilkbfmaofmjoaaGreatDoor
namespace Go.Proofs.YtilkbfmaofmjoaaGreatDoor
open Go.RowKit Go.Rel
set_option linter.unusedSimpArgs false
set_option linter.unusedVariables false
end Go.Proofs.YtilkbfmaofmjoaaGreatDoor
namespace Go.Proofs.YtilkbfmaofmjoaaGreatDoor
open Go.RowKit Go.Rel
set_option linter.unusedSimpArgs false
set_option linter.unusedVariables false
end Go.Proofs.YtilkbfmaofmjoaaGreatDoor
namespace Go.Proofs.YtilkbfmaofmjoaaGreatDoor
open Go.RowKit Go.Rel
set_option linter.unusedSimpArgs false
set_option linter.unusedVariables false
end Go.Proofs.YtilkbfmaofmjoaaGreatDoor
namespace Go.Proofs.YtilkbfmaofmjoaaGreatDoor
open Go.RowKit Go.Rel
set_option linter.unusedSimpArgs false
set_option linter.unusedVariables false
theorem ne_types {w : World} {a b : Nat} {c1 c2 : Array Value} {t1 t2 : TypeId} {f1 f2 : Nat × Nat} (h1 : w.heap[a]? = some (.cells c1 t1 f1)) (h2 : w.heap[b]? = some (.cells c2 t2 f2)) (hT : t1 ≠ t2) : a ≠ b := by
  rintro rfl
  rw [h1] at h2
  simp only [Option.some.injEq, Obj.cells.injEq] at h2
  exact hT h2.2.1
theorem t1_blk {S : Nat → Prop} {w : World} {B : Nat} {t : Tb NdW} (h : Nt.TAt S w B t) : ∃ c, w.heap[B]? = some (.cells c 139 (0, 0)) := by
  obtain ⟨_, A, c, h⟩ := h
  exact ⟨_, h.blk⟩
theorem t2_blk {S : Nat → Prop} {w : World} {B : Nat} {t : Tb SvW} (h : Vt.TAt S w B t) : ∃ c, w.heap[B]? = some (.cells c 141 (0, 0)) := by
  obtain ⟨_, A, c, h⟩ := h
  exact ⟨_, h.blk⟩
theorem t3_blk {S : Nat → Prop} {w : World} {B : Nat} {t : Tb CkW} (h : Ct.TAt S w B t) : ∃ c, w.heap[B]? = some (.cells c 143 (0, 0)) := by
  obtain ⟨_, A, c, h⟩ := h
  exact ⟨_, h.blk⟩
structure CpAll (P1 P2 P3 : Nat → Prop) (Z : Nat) (w : World) (b1 b2 b3 : Nat) (T1 : Tb NdW) (T2 : Tb SvW) (T3 : Tb CkW) : Prop where
  z : Z ≤ b1 ∧ Z ≤ b2 ∧ Z ≤ b3
  t1 : Nt.TAt (fun k => P1 k ∨ k = b1) w b1 T1
  t2 : Vt.TAt (fun k => P2 k ∨ k = b2) w b2 T2
  t3 : Ct.TAt (fun k => P3 k ∨ k = b3) w b3 T3
theorem CpAll.below {P1 P2 P3 : Nat → Prop} {Z : Nat} {w w' : World} {b1 b2 b3 : Nat} {T1 : Tb NdW} {T2 : Tb SvW} {T3 : Tb CkW} (h : CpAll P1 P2 P3 Z w b1 b2 b3 T1 T2 T3) (hb : Below w.heap.size w w') : CpAll P1 P2 P3 Z w' b1 b2 b3 T1 T2 T3 := ⟨h.z, h.t1.below hb, h.t2.below hb, h.t3.below hb⟩
theorem CpAll.ro {S : Nat → Prop} {W0 w : World} {B B1 B2 B3 b0 b1 b2 b3 : Nat} {T1 : Tb NdW} {T2 : Tb SvW} {T3 : Tb CkW} (h0 : RoIs S W0 B B1 B2 B3 T1 T2 T3) (hb : Below W0.heap.size W0 w) (h : CpAll (fun k => Sub S B B2 B3 k ∧ k < W0.heap.size) (fun k => Sub S B B1 B3 k ∧ k < W0.heap.size) (fun k => Sub S B B1 B2 k ∧ k < W0.heap.size) W0.heap.size w b1 b2 b3 T1 T2 T3)
    (hz : W0.heap.size ≤ b0) (hk : w.heap[b0]? = some (.cells #[.pointer (some ⟨b1, 0, none⟩), .pointer (some ⟨b2, 0, none⟩), .pointer (some ⟨b3, 0, none⟩)] TRo (0, 0))) : RoIs (fun k => S k ∨ W0.heap.size ≤ k) w b0 b1 b2 b3 T1 T2 T3 := by
  obtain ⟨z1, z2, z3⟩ := h.z
  obtain ⟨x1, k1⟩ := t1_blk h.t1
  obtain ⟨x2, k2⟩ := t2_blk h.t2
  obtain ⟨x3, k3⟩ := t3_blk h.t3
  have d01 := ne_types hk k1 (by decide)
  have d02 := ne_types hk k2 (by decide)
  have d03 := ne_types hk k3 (by decide)
  have d12 := ne_types k1 k2 (by decide)
  have d13 := ne_types k1 k3 (by decide)
  have d23 := ne_types k2 k3 (by decide)
  have hp := h0.pw.lt
  refine ⟨h0.pw.below hb, .inl h0.sg, ⟨.inr hz, by omega⟩, hk, h.t1.narrow fun k _ z => ?_, h.t2.narrow fun k _ z => ?_, h.t3.narrow fun k _ z => ?_, fun r hr => ((h0.tg r hr).narrow (S' := fun k => S k ∧ k < W0.heap.size) fun k hk z => ⟨z.1, hk⟩).below hb |>.narrow fun k _ z => ⟨.inl z.1, by omega, by omega, by omega⟩⟩
  · rcases z with ⟨z, zz⟩ | z
    · exact ⟨.inl z.1, by omega, by omega, by omega, z.2.2.2.2⟩
    · exact ⟨.inr (by omega), by omega, by omega, by omega, by omega⟩
  · rcases z with ⟨z, zz⟩ | z
    · exact ⟨.inl z.1, by omega, by omega, by omega, z.2.2.2.2⟩
    · exact ⟨.inr (by omega), by omega, by omega, by omega, by omega⟩
  · rcases z with ⟨z, zz⟩ | z
    · exact ⟨.inl z.1, by omega, by omega, by omega, z.2.2.2.2⟩
    · exact ⟨.inr (by omega), by omega, by omega, by omega, by omega⟩
end Go.Proofs.YtilkbfmaofmjoaaGreatDoor
namespace Go.Proofs.YtilkbfmaofmjoaaGreatDoor
open Go.RowKit
set_option linter.unusedSimpArgs false
set_option linter.unusedVariables false
theorem la_cells : Tryz.prog.cellsOf 29 = 1 := by kernel_rfl
theorem la_plain : Tryz.prog.plainKey 29 = true := by kernel_rfl
theorem la_info : (Tryz.prog.info? 29).isSome = true := by kernel_rfl
theorem la_und : Tryz.prog.underlying 55 = some (.array 3 29) := by kernel_rfl
theorem la_int (a b : Nat) (w : World) : (Op.equalIn 9999 29 (.int .u64 (a : Int)) (.int .u64 (b : Int))).run Tryz.prog w = .ok (decide (a = b)) w := by
  rw [run_equalIn_int w 9998 _ _ _ _ _ (show Tryz.prog.underlying 29 = some (.int .u64) by kernel_rfl)]
  congr 1
  rw [Bool.eq_iff_iff]
  simp only [beq_iff_eq, decide_eq_true_eq]
  omega
set_option maxRecDepth 100000 in
theorem la_eq (a b c a2 b2 c2 : Nat) (w : World) : (Op.equalIn 10000 55 (.agg #[.int .u64 (a : Int), .int .u64 (b : Int), .int .u64 (c : Int)]) (.agg #[.int .u64 (a2 : Int), .int .u64 (b2 : Int), .int .u64 (c2 : Int)])).run Tryz.prog w = .ok (decide (a = a2) && (decide (b = b2) && decide (c = c2))) w := by
  obtain ⟨i, hi⟩ := Option.isSome_iff_exists.1 la_info
  rw [run_equalIn_array w 9999 _ _ la_und hi, la_cells]
  have p0 := la_int a a2 w
  have p1 := la_int b b2 w
  have p2 := la_int c c2 w
  have hr : List.range 3 = [0, 1, 2] := rfl
  rw [hr]
  have hp : ∀ (x y z : Nat) (k : Nat) (v : Value), #[Value.int .u64 (x : Int), .int .u64 (y : Int), .int .u64 (z : Int)][k]? = some v → (part 29 #[Value.int .u64 (x : Int), .int .u64 (y : Int), .int .u64 (z : Int)] k).run Tryz.prog w = .ok v w := by
    intro x y z k v hv
    exact run_part_plain w la_plain hv
  have q0 := hp a b c 0 (.int .u64 (a : Int)) rfl
  have q1 := hp a b c 1 (.int .u64 (b : Int)) rfl
  have q2 := hp a b c 2 (.int .u64 (c : Int)) rfl
  have r0 := hp a2 b2 c2 0 (.int .u64 (a2 : Int)) rfl
  have r1 := hp a2 b2 c2 1 (.int .u64 (b2 : Int)) rfl
  have r2 := hp a2 b2 c2 2 (.int .u64 (c2 : Int)) rfl
  clear hp hr hi
  generalize #[Value.int .u64 (a : Int), .int .u64 (b : Int), .int .u64 (c : Int)] = xs at q0 q1 q2 ⊢
  generalize #[Value.int .u64 (a2 : Int), .int .u64 (b2 : Int), .int .u64 (c2 : Int)] = ys at r0 r1 r2 ⊢
  generalize decide (a = a2) = x0 at p0 ⊢
  generalize decide (b = b2) = x1 at p1 ⊢
  generalize decide (c = c2) = x2 at p2 ⊢
  simp only [Op.eqItems, Sem.run_bind, Nat.mul_one, q0, q1, q2, r0, r1, r2, Result.andThen_ok, p0, p1, p2]
  cases x0 <;> cases x1 <;> cases x2 <;> simp [p0, p1, p2, q1, q2, r1, r2]
theorem la_guard : Tryz.prog.eqGuardType Tryz.prog.depth 55 = false := by kernel_rfl
end Go.Proofs.YtilkbfmaofmjoaaGreatDoor
