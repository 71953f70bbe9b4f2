/-
  Service, walked (layer 19).
-/
import Derived.Test.YtilkbfmaofmjoaaGreatDoorZj44
namespace Go.Proofs.YtilkbfmaofmjoaaGreatDoor
open Go.RowKit Go.Rel
set_option linter.unusedSimpArgs false
set_option linter.unusedVariables false

theorem put_sA {T : Tb SvW} {k : ByteArray} {v : SvW} {i : Nat} : sA (T.putT k v i) = (sA T).putT k v.a i := (Tb.putT_map _ T k v i).symm
theorem svc_bad {d : Ro} {x : SvA} {i e : Nat} (h : d.wrongS x = e) (he : e ≠ 0) : d.service x i = (e, d) := by
  unfold Ro.service
  rw [h, if_pos he]
structure SvIn (w : World) (x : Rw SvW) : Prop where
  node : -9223372036854775808 ≤ x.val.a.node ∧ x.val.a.node ≤ 9223372036854775807
  port : -9223372036854775808 ≤ x.val.a.port ∧ x.val.a.port ≤ 9223372036854775807
  id : x.val.a.id.size ≤ maxLen
  name : x.val.a.name.size ≤ maxLen
  tx : Tx w x.val.A x.val.n x.val.c x.val.a.tags
  small : Small x.val.a.tags
theorem SvIn.below {w w' : World} {x : Rw SvW} (h : SvIn w x) (hb : Below w.heap.size w w') : SvIn w' x := ⟨h.node, h.port, h.id, h.name, h.tx.below hb, h.small⟩
theorem Tx.rs {w : World} {A : Option Addr} {n c : Nat} {l : List ByteArray} (h : Tx w A n c l) : RS w A n l :=
  ⟨h.len, fun hn => by
    obtain ⟨b, off, e, hb, hc⟩ := h.row.2 hn
    exact ⟨b, off, e, hb, fun j hj => by
      have := hc j hj 0 (.string l[j]) rfl
      simpa using this⟩⟩
theorem tags_len {l : List ByteArray} (h : tagsB l = true) : l.length ≤ 4 := by
  unfold tagsB at h
  simp only [Bool.and_eq_true, decide_eq_true_eq] at h
  exact h.1.1
theorem layS_any {S : Nat → Prop} {w : World} {B B1 B2 B3 : Nat} {T1 : Tb NdW} {T2 : Tb SvW} {T3 : Tb CkW} (h : RoIs S w B B1 B2 B3 T1 T2 T3) (r : Rw SvW) (i : Nat) (hi : i < 18446744073709551616) (hk : r.key.size ≤ maxLen) (hv : TgAt (fun k => S k ∧ k ≠ B1 ∧ k ≠ B2 ∧ k ≠ B3) w r.val) : Calls Tryz.prog 75 #[.pointer (some ⟨B2, 0, none⟩), Vt.trV r, .int .u64 (i : Int)] w fun e w' => e = .returned (.int .i64 (layE T2 r.key : Int)) ∧ RoIs (fun k => S k ∨ w.heap.size ≤ k) w' B B1 B2 B3 T1 (T2.putT r.key r.val i) T3 ∧ But (· = B2) w w' :=
  (layService_any r i h.t2 hi hk).mono fun e w' ⟨q1, q2, q3⟩ => ⟨q1, h.put2 q2 q3 (v := r.val) (fun r2 hr => (putT_mem hr).imp (·.2) (fun z => z)) hv, q3⟩
def rskFalseE (B : Nat) (B1 : Nat) (X : Nat) (x : Rw SvW) (k0 : ByteArray) : Nat → Value
  | 0 | 1 | 2 => .pointer (some ⟨B, 0, none⟩)
  | 3 => .pointer (some ⟨B1, 0, none⟩)
  | 4 => .pointer (some ⟨X, 0, none⟩)
  | 5 => .int .i64 x.val.a.node
  | 6 => .string k0
  | 7 => .bool false
  | 8 | 9 => .bool true
  | _ => undef
def rskTrueE (B : Nat) (B1 : Nat) (X : Nat) (x : Rw SvW) (k0 : ByteArray) : Nat → Value
  | 0 | 1 | 2 => .pointer (some ⟨B, 0, none⟩)
  | 3 => .pointer (some ⟨B1, 0, none⟩)
  | 4 => .pointer (some ⟨X, 0, none⟩)
  | 5 => .int .i64 x.val.a.node
  | 6 => .string k0
  | 7 => .bool true
  | 8 | 9 => .bool false
  | _ => undef
def rslE (B : Nat) (B2 : Nat) (X : Nat) (x : Rw SvW) (ii : Nat) (er : Nat) : Nat → Value
  | 0 | 1 => .pointer (some ⟨B, 0, none⟩)
  | 2 => .pointer (some ⟨B, 1, none⟩)
  | 3 => .pointer (some ⟨B2, 0, none⟩)
  | 4 => .agg #[.func (.func 92) #[] #[], .func (.func 93) #[] #[]]
  | 5 => .func (.func 93) #[] #[]
  | 6 => .agg #[.int .i64 x.val.a.node, .string x.val.a.id, .string x.val.a.name, .slice x.val.A x.val.n x.val.c, .int .i64 x.val.a.port, .int .u64 (x.made : Int), .int .u64 (x.ix : Int)]
  | 8 => .int .u64 (ii : Int)
  | 9 | 10 => .int .i64 (er : Int)
  | _ => undef
set_option maxHeartbeats 8000000 in
set_option maxRecDepth 100000 in
theorem rservice_any {S : Nat → Prop} {w : World} {B B1 B2 B3 m : Nat} {d : Ro} (x : Rw SvW) (i : Nat) (h : RoAt S w B B1 B2 B3 m d) (hx : SvIn w x) (hi : i < 18446744073709551616) : Calls Tryz.prog 30 #[.pointer (some ⟨B, 0, none⟩), svV x, .int .u64 (i : Int)] w fun e w' => e = .returned (.int .i64 ((d.service x.val.a i).1 : Int)) ∧ RoAt (fun k => S k ∨ w.heap.size ≤ k) w' B B1 B2 B3 m (d.service x.val.a i).2 ∧ But (Ch3 B1 B2 B3) w w' := by
  have HAt := Lib.hid h
  obtain ⟨hok, T1, T2, T3, h, e1, e2, e3⟩ := h
  obtain ⟨X, hX⟩ : ∃ X, w.heap.size = X := ⟨_, rfl⟩
  have b0 := below1 w #[.int .i64 x.val.a.node, .string x.val.a.id, .string x.val.a.name, .slice x.val.A x.val.n x.val.c, .int .i64 x.val.a.port, .int .u64 (x.made : Int), .int .u64 (x.ix : Int)] TSv
  have k0 := heap_alloc_new w (.cells #[.int .i64 x.val.a.node, .string x.val.a.id, .string x.val.a.name, .slice x.val.A x.val.n x.val.c, .int .i64 x.val.a.port, .int .u64 (x.made : Int), .int .u64 (x.ix : Int)] TSv)
  obtain ⟨w1, hw1⟩ : ∃ w1, w.alloc (.cells #[.int .i64 x.val.a.node, .string x.val.a.id, .string x.val.a.name, .slice x.val.A x.val.n x.val.c, .int .i64 x.val.a.port, .int .u64 (x.made : Int), .int .u64 (x.ix : Int)] TSv) = w1 := ⟨_, rfl⟩
  rw [hw1] at b0 k0
  rw [hX] at k0
  have HX0 := Lib.hid hX
  have HW1 := Lib.hid hw1
  have HB1 := Lib.hid b0
  have HIs := Lib.hid (h.below b0)
  have HMd := Lib.hid (made_is (h.below b0).ptr)
  have HKx0 := Lib.hid k0
  have HE := Lib.hid (And.intro e1 (And.intro e2 e3))
  have HOk := Lib.hid hok
  have HI := Lib.hid hi
  have HIn := Lib.hid (hx.below b0)
  have HRt := Lib.hid (fun W => right_is x.val.a.node W hx.node)
  have HNm := Lib.hid (fun W => right_any x.val.a.id W hx.id)
  have HNn := Lib.hid (fun W => right_any x.val.a.name W hx.name)
  have hs1 := hx.port
  have hnm : x.val.n ≤ maxLen := Nat.le_trans hx.tx.le hx.tx.max
  have HTg := Lib.hid (fun W (hW : Below w1.heap.size w1 W) => tags_any x.val.A x.val.n x.val.c x.val.a.tags W ((hx.tx.below b0).below hW).rs hx.small hnm)
  unfold svV
  clear h e1 e2 e3 hok hi hX hw1 b0 k0 hx hnm
  cases hb : nodeB x.val.a.node with
  | false =>
    have hd : d.service x.val.a i = (2, d) := svc_bad (by
      unfold Ro.wrongS
      rw [if_pos (.inl hb)]) (by decide)
    rw [hd]
    clear hd
    rw [hb] at HRt
    clear hb
    go_enter Tryz.func30, Tryz.ntmps30
    go_wp2_with fail
    rw [HW1.out, HX0.out]
    refine HMd.out.mono ?_
    rintro e W0 ⟨rfl, hb⟩
    have HB := Lib.hid hb
    have hkx := (hb.block X (block_lt HKx0.out)).trans HKx0.out
    have dx := sv_blk hkx
    have lx := block_lt hkx
    clear hb
    go_wp2_with fail
    refine (HRt.out _).mono ?_
    rintro e w2 ⟨rfl, rfl⟩
    go_wp2
    go_ret
    exact ⟨rfl, HAt.out.wide (HB1.out.trans (HB.out.mono HB1.out.size)), But.of_below (HB1.out.trans (HB.out.mono HB1.out.size))⟩
  | true =>
    rw [hb] at HRt
    by_cases hs2 : x.val.a.port < 0
    · have hw := hs2
      have hd : d.service x.val.a i = (2, d) := svc_bad (by
        unfold Ro.wrongS
        rw [if_pos (.inr (.inl hs2))]) (by decide)
      rw [hd]
      clear hd
      clear hb hw
      go_enter Tryz.func30, Tryz.ntmps30
      go_wp2_with fail
      rw [HW1.out, HX0.out]
      refine HMd.out.mono ?_
      rintro e W0 ⟨rfl, hb⟩
      have HB := Lib.hid hb
      have hkx := (hb.block X (block_lt HKx0.out)).trans HKx0.out
      have dx := sv_blk hkx
      have lx := block_lt hkx
      clear hb
      go_wp2_with fail
      refine (HRt.out _).mono ?_
      rintro e w2 ⟨rfl, rfl⟩
      go_wp2
      go_ret
      exact ⟨rfl, HAt.out.wide (HB1.out.trans (HB.out.mono HB1.out.size)), But.of_below (HB1.out.trans (HB.out.mono HB1.out.size))⟩
    · by_cases hs3 : 65535 < x.val.a.port
      · have hw := hs3
        have hd : d.service x.val.a i = (2, d) := svc_bad (by
          unfold Ro.wrongS
          rw [if_pos (.inr (.inr hs3))]) (by decide)
        rw [hd]
        clear hd
        clear hb hw
        go_enter Tryz.func30, Tryz.ntmps30
        go_wp2_with fail
        rw [HW1.out, HX0.out]
        refine HMd.out.mono ?_
        rintro e W0 ⟨rfl, hb⟩
        have HB := Lib.hid hb
        have hkx := (hb.block X (block_lt HKx0.out)).trans HKx0.out
        have dx := sv_blk hkx
        have lx := block_lt hkx
        clear hb
        go_wp2_with fail
        refine (HRt.out _).mono ?_
        rintro e w2 ⟨rfl, rfl⟩
        go_wp2
        go_ret
        exact ⟨rfl, HAt.out.wide (HB1.out.trans (HB.out.mono HB1.out.size)), But.of_below (HB1.out.trans (HB.out.mono HB1.out.size))⟩
      · have ds2 : decide (x.val.a.port < 0) = false := decide_eq_false hs2
        have ds3 : decide (65535 < x.val.a.port) = false := decide_eq_false hs3
        have h1 : ¬ (nodeB x.val.a.node = false ∨ x.val.a.port < 0 ∨ 65535 < x.val.a.port) := by rw [hb]; simp; omega
        cases hid : rightB x.val.a.id.data.toList with
        | false =>
          have hd : d.service x.val.a i = (10, d) := svc_bad (by
            unfold Ro.wrongS
            rw [if_neg h1, if_pos (.inl hid)]) (by decide)
          rw [hd]
          clear hd
          rw [hid] at HNm
          clear hb h1 hid
          go_enter Tryz.func30, Tryz.ntmps30
          go_wp2_with fail
          rw [HW1.out, HX0.out]
          refine HMd.out.mono ?_
          rintro e W0 ⟨rfl, hb⟩
          have HB := Lib.hid hb
          have hkx := (hb.block X (block_lt HKx0.out)).trans HKx0.out
          have dx := sv_blk hkx
          have lx := block_lt hkx
          clear hb
          go_wp2_with fail
          refine (HRt.out _).mono ?_
          rintro e w2 ⟨rfl, rfl⟩
          go_wp2_with fail
          refine (HNm.out _).mono ?_
          rintro e w2 ⟨rfl, rfl⟩
          go_wp2
          go_ret
          exact ⟨rfl, HAt.out.wide (HB1.out.trans (HB.out.mono HB1.out.size)), But.of_below (HB1.out.trans (HB.out.mono HB1.out.size))⟩
        | true =>
          have hidl := right_sz hid
          rw [hid] at HNm
          cases hnn : rightB x.val.a.name.data.toList with
          | false =>
            have hd : d.service x.val.a i = (10, d) := svc_bad (by
              unfold Ro.wrongS
              rw [if_neg h1, if_pos (.inr (.inl hnn))]) (by decide)
            rw [hd]
            clear hd
            rw [hnn] at HNn
            clear hb h1 hid hnn
            go_enter Tryz.func30, Tryz.ntmps30
            go_wp2_with fail
            rw [HW1.out, HX0.out]
            refine HMd.out.mono ?_
            rintro e W0 ⟨rfl, hb⟩
            have HB := Lib.hid hb
            have hkx := (hb.block X (block_lt HKx0.out)).trans HKx0.out
            have dx := sv_blk hkx
            have lx := block_lt hkx
            clear hb
            go_wp2_with fail
            refine (HRt.out _).mono ?_
            rintro e w2 ⟨rfl, rfl⟩
            go_wp2_with fail
            refine (HNm.out _).mono ?_
            rintro e w2 ⟨rfl, rfl⟩
            go_wp2_with fail
            refine (HNn.out _).mono ?_
            rintro e w2 ⟨rfl, rfl⟩
            go_wp2
            go_ret
            exact ⟨rfl, HAt.out.wide (HB1.out.trans (HB.out.mono HB1.out.size)), But.of_below (HB1.out.trans (HB.out.mono HB1.out.size))⟩
          | true =>
            rw [hnn] at HNn
            cases htg : tagsB x.val.a.tags with
            | false =>
              have hd : d.service x.val.a i = (10, d) := svc_bad (by
                unfold Ro.wrongS
                rw [if_neg h1, if_pos (.inr (.inr htg))]) (by decide)
              rw [hd]
              clear hd
              rw [htg] at HTg
              clear hb h1 hid hnn htg
              go_enter Tryz.func30, Tryz.ntmps30
              go_wp2_with fail
              rw [HW1.out, HX0.out]
              refine HMd.out.mono ?_
              rintro e W0 ⟨rfl, hb⟩
              have HB := Lib.hid hb
              have hkx := (hb.block X (block_lt HKx0.out)).trans HKx0.out
              have dx := sv_blk hkx
              have lx := block_lt hkx
              clear hb
              go_wp2_with fail
              refine (HRt.out _).mono ?_
              rintro e w2 ⟨rfl, rfl⟩
              go_wp2_with fail
              refine (HNm.out _).mono ?_
              rintro e w2 ⟨rfl, rfl⟩
              go_wp2_with fail
              refine (HNn.out _).mono ?_
              rintro e w2 ⟨rfl, rfl⟩
              go_wp2_with fail
              refine (HTg.out _ HB.out).mono ?_
              rintro e W1 ⟨rfl, hb⟩
              have hkx1 := (hb.block X (block_lt hkx)).trans hkx
              have HB : Hid (Below w1.heap.size w1 W1) := Lib.hid (HB.out.trans (hb.mono HB.out.size))
              clear hb dx lx
              have dx := sv_blk hkx1
              have lx := block_lt hkx1
              go_wp2
              go_ret
              exact ⟨rfl, HAt.out.wide (HB1.out.trans (HB.out.mono HB1.out.size)), But.of_below (HB1.out.trans (HB.out.mono HB1.out.size))⟩
            | true =>
              have htl := tags_len htg
              rw [htg] at HTg
              have h2 : ¬ (rightB x.val.a.id.data.toList = false ∨ rightB x.val.a.name.data.toList = false ∨ tagsB x.val.a.tags = false) := by rw [hid, hnn, htg]; simp
              obtain ⟨k0, hk0⟩ : ∃ k0, keyO x.val.a.node noT = k0 := ⟨_, rfl⟩
              cases hth : d.there x.val.a.node with
              | false =>
                have hd : d.service x.val.a i = (4, d) := svc_bad (by
                  unfold Ro.wrongS
                  rw [if_neg h1, if_neg h2, if_pos hth]) (by decide)
                rw [hd]
                clear hd
                have HTh : Hid ((getR T1.l k0).isSome = false) := Lib.hid (by rw [← has_map (fun v : NdW => v.a) T1]; show (getR (nA T1).l k0).isSome = _; rw [HE.out.1, ← hk0]; exact hth)
                have HHk0 := Lib.hid hk0
                clear hb h1 h2 hid hnn htg hth hk0
                go_enter Tryz.func30, Tryz.ntmps30
                go_wp2_with fail
                rw [HW1.out, HX0.out]
                refine HMd.out.mono ?_
                rintro e W0 ⟨rfl, hb⟩
                have HB := Lib.hid hb
                have hkx := (hb.block X (block_lt HKx0.out)).trans HKx0.out
                have dx := sv_blk hkx
                have lx := block_lt hkx
                clear hb
                go_wp2_with fail
                refine (HRt.out _).mono ?_
                rintro e w2 ⟨rfl, rfl⟩
                go_wp2_with fail
                refine (HNm.out _).mono ?_
                rintro e w2 ⟨rfl, rfl⟩
                go_wp2_with fail
                refine (HNn.out _).mono ?_
                rintro e w2 ⟨rfl, rfl⟩
                go_wp2_with fail
                refine (HTg.out _ HB.out).mono ?_
                rintro e W1 ⟨rfl, hb⟩
                have hkx1 := (hb.block X (block_lt hkx)).trans hkx
                have HB : Hid (Below w1.heap.size w1 W1) := Lib.hid (HB.out.trans (hb.mono HB.out.size))
                clear hb dx lx
                have dx := sv_blk hkx1
                have lx := block_lt hkx1
                have hA := HIs.out.below HB.out
                have HA := Lib.hid hA
                have HKb := Lib.hid hA.ptr
                have HLb := Lib.hid hA.lt
                have HKx := Lib.hid hkx1
                have HLx := Lib.hid lx
                have HK0 := Lib.hid (fun W (hW : Below W1.heap.size W1 W) => (by
                  have := rkey_any x.val.a.node noT W HIn.out.node (by decide) (hA.pw.below hW)
                  rw [HHk0.out] at this
                  exact this : Calls Tryz.prog 52 #[.int .i64 x.val.a.node, .string noT] W fun e w' => e = .returned (.string k0) ∧ Below W.heap.size W w'))
                have HH0 := Lib.hid (fun W (hW : Below W1.heap.size W1 W) => (by
                  have := hasNode_any k0 (hA.t1.below hW)
                  rw [HTh.out] at this
                  exact this : Calls Tryz.prog 59 #[.pointer (some ⟨B1, 0, none⟩), .string k0] W fun e w' => e = .returned (.bool false) ∧ Below W.heap.size W w'))
                clear hA hkx hkx1 dx lx HMd HRt HNm HNn HTg HIs
                go_wp2_with fail
                have hre : ∀ w : World, ((fun a b : World => Below a.heap.size a b)) w w := (fun w => Below.refl _ w)
                have hrd : ∀ (f : Nat → Bool) w i, i ≠ 6 → (fun (_ : Nat → Bool) (w : World) => Below W1.heap.size W1 w) f w → (fun (_ : Nat → Bool) (w : World) => Below W1.heap.size W1 w) (Go.Rel.upd f i) w := (fun _ _ _ _ h => h)
                refine Go.Rel.wp_tab (by kernel_rfl) (by kernel_rfl) (fun (_ : Nat → Bool) (w : World) => Below W1.heap.size W1 w) ((fun a b : World => Below a.heap.size a b)) hre ((fun _ _ _ h k => h.trans (k.mono h.size))) ((⟨rfl, rfl, rfl, Nat.le_refl _, fun _ _ => rfl⟩)) ⟨rfl, rfl, rfl, Nat.le_refl _, fun _ _ => rfl⟩ (rskFalseE B B1 X x k0) (fun _ _ _ => True) (fun i => ([] : List Nat).contains i) (fun i => ([3, 5, 6, 7] : List Nat).contains i) (by kernel_rfl) (fun _ _ _ _ h _ => h) 6 rfl hrd ?_ (Go.Rel.AllOf.get ?_) ?_
                · repeat (refine .cons (by first | exact Go.Rel.pure_sp rfl | exact Go.Rel.pure_yes (by kernel_rfl) (fun _ => by kernel_rfl) | exact Go.Rel.pure_no (by kernel_rfl) rfl) ?_)
                  exact .nil
                · refine ⟨?_, ?_, ?_, ?_, trivial⟩
                  · exact SpecOk.ld hrd hre (q := .pointer (some ⟨B, 0, none⟩)) (h := fun _ w' hI _ _ _ _ => by have cb := ro_ptrs ((hI.block B HLb.out).trans HKb.out); go_simp; rfl)
                  · exact SpecOk.ld hrd hre (q := .pointer (some ⟨X, 0, none⟩)) (h := fun _ w' hI _ _ _ _ => by have cc := sv_blk ((hI.block X HLx.out).trans HKx.out); go_simp; rfl)
                  · refine SpecOk.call 52 #[.int .i64 x.val.a.node, .string { data := #[] }] rfl (by kernel_rfl) (fun _ => by kernel_rfl) fun _ w' hI _ _ _ _ => ?_
                    refine (HK0.out w' hI).mono ?_
                    rintro e w2 ⟨rfl, hb9⟩
                    exact ⟨_, rfl, hb9, (hI.trans (hb9.mono hI.size)), rfl⟩
                  · refine SpecOk.call 59 #[.pointer (some ⟨B1, 0, none⟩), .string k0] rfl (by kernel_rfl) (fun _ => by kernel_rfl) fun _ w' hI _ _ _ _ => ?_
                    refine (HH0.out w' hI).mono ?_
                    rintro e w2 ⟨rfl, hb9⟩
                    exact ⟨_, rfl, hb9, (hI.trans (hb9.mono hI.size)), rfl⟩
                · intro f W2 e hall hJ hle hv
                  have v9 := hv 9 rfl
                  simp only [Go.Rel.finL, List.setIfInBounds_toArray, List.set_cons_succ, List.set_cons_zero]
                  rw [show e 9 = .bool true from v9]
                  have HJ : Hid (Below w.heap.size w W2) := Lib.hid (HB1.out.trans ((HB.out.trans (hJ.mono HB.out.size)).mono HB1.out.size))
                  have HJ0 := Lib.hid hJ
                  clear hv hall hle hJ v9
                  go_wp2
                  go_ret
                  exact ⟨rfl, HAt.out.wide HJ.out, But.of_below HJ.out⟩
              | true =>
                have hw : d.wrongS x.val.a = 0 := by
                  unfold Ro.wrongS
                  rw [if_neg h1, if_neg h2, if_neg (by rw [hth]; simp)]
                have hok1 := wrongS_ok.1 hw
                obtain ⟨k, hk⟩ : ∃ k, keyO x.val.a.node x.val.a.id = k := ⟨_, rfl⟩
                have hks : k.size ≤ maxLen := by rw [← hk]; exact hok1.1.key
                obtain ⟨er, her⟩ : ∃ er, layE T2 k = er := ⟨_, rfl⟩
                obtain ⟨d', hd'⟩ : ∃ d', (d.service x.val.a i).2 = d' := ⟨_, rfl⟩
                have hd : (d.service x.val.a i).1 = er ∧ d'.n = d.n ∧ d'.c = d.c ∧ ∀ v : SvW, v.a = x.val.a → sA (T2.putT k v i) = d'.s := by
                  rw [← hd']
                  unfold Ro.service SvA.key
                  rw [hw, if_neg (by simp), hk, ← HE.out.2.1, layE_map, her]
                  exact ⟨rfl, rfl, rfl, fun v e => by rw [put_sA, e]⟩
                have hok2 := HOk.out.service (x := x.val.a) HI.out
                rw [hd'] at hok2 ⊢
                rw [hd.1]
                have HD := Lib.hid hd.2
                have HOk2 := Lib.hid hok2
                have HKs := Lib.hid hks
                have HHk := Lib.hid hk
                have HEr := Lib.hid her
                have HN4 : Hid (x.val.n ≤ 4) := Lib.hid (by have := HIn.out.tx.len; omega)
                have HIl := Lib.hid hidl
                have HTh : Hid ((getR T1.l k0).isSome = true) := Lib.hid (by rw [← has_map (fun v : NdW => v.a) T1]; show (getR (nA T1).l k0).isSome = _; rw [HE.out.1, ← hk0]; exact hth)
                have HHk0 := Lib.hid hk0
                clear hw hok1 hk hks her hd hd' hok2 hb h1 h2 hid hnn htg hth hk0 htl hidl
                go_enter Tryz.func30, Tryz.ntmps30
                go_wp2_with fail
                rw [HW1.out, HX0.out]
                refine HMd.out.mono ?_
                rintro e W0 ⟨rfl, hb⟩
                have HB := Lib.hid hb
                have hkx := (hb.block X (block_lt HKx0.out)).trans HKx0.out
                have dx := sv_blk hkx
                have lx := block_lt hkx
                clear hb
                go_wp2_with fail
                refine (HRt.out _).mono ?_
                rintro e w2 ⟨rfl, rfl⟩
                go_wp2_with fail
                refine (HNm.out _).mono ?_
                rintro e w2 ⟨rfl, rfl⟩
                go_wp2_with fail
                refine (HNn.out _).mono ?_
                rintro e w2 ⟨rfl, rfl⟩
                go_wp2_with fail
                refine (HTg.out _ HB.out).mono ?_
                rintro e W1 ⟨rfl, hb⟩
                have hkx1 := (hb.block X (block_lt hkx)).trans hkx
                have HB : Hid (Below w1.heap.size w1 W1) := Lib.hid (HB.out.trans (hb.mono HB.out.size))
                clear hb dx lx
                have dx := sv_blk hkx1
                have lx := block_lt hkx1
                have hA := HIs.out.below HB.out
                have HA := Lib.hid hA
                have HKb := Lib.hid hA.ptr
                have HLb := Lib.hid hA.lt
                have HKx := Lib.hid hkx1
                have HLx := Lib.hid lx
                have HK0 := Lib.hid (fun W (hW : Below W1.heap.size W1 W) => (by
                  have := rkey_any x.val.a.node noT W HIn.out.node (by decide) (hA.pw.below hW)
                  rw [HHk0.out] at this
                  exact this : Calls Tryz.prog 52 #[.int .i64 x.val.a.node, .string noT] W fun e w' => e = .returned (.string k0) ∧ Below W.heap.size W w'))
                have HH0 := Lib.hid (fun W (hW : Below W1.heap.size W1 W) => (by
                  have := hasNode_any k0 (hA.t1.below hW)
                  rw [HTh.out] at this
                  exact this : Calls Tryz.prog 59 #[.pointer (some ⟨B1, 0, none⟩), .string k0] W fun e w' => e = .returned (.bool true) ∧ Below W.heap.size W w'))
                clear hA hkx hkx1 dx lx HMd HRt HNm HNn HTg HIs
                go_wp2_with fail
                have hre : ∀ w : World, ((fun a b : World => Below a.heap.size a b)) w w := (fun w => Below.refl _ w)
                have hrd : ∀ (f : Nat → Bool) w i, i ≠ 6 → (fun (_ : Nat → Bool) (w : World) => Below W1.heap.size W1 w) f w → (fun (_ : Nat → Bool) (w : World) => Below W1.heap.size W1 w) (Go.Rel.upd f i) w := (fun _ _ _ _ h => h)
                refine Go.Rel.wp_tab (by kernel_rfl) (by kernel_rfl) (fun (_ : Nat → Bool) (w : World) => Below W1.heap.size W1 w) ((fun a b : World => Below a.heap.size a b)) hre ((fun _ _ _ h k => h.trans (k.mono h.size))) ((⟨rfl, rfl, rfl, Nat.le_refl _, fun _ _ => rfl⟩)) ⟨rfl, rfl, rfl, Nat.le_refl _, fun _ _ => rfl⟩ (rskTrueE B B1 X x k0) (fun _ _ _ => True) (fun i => ([] : List Nat).contains i) (fun i => ([3, 5, 6, 7] : List Nat).contains i) (by kernel_rfl) (fun _ _ _ _ h _ => h) 6 rfl hrd ?_ (Go.Rel.AllOf.get ?_) ?_
                · repeat (refine .cons (by first | exact Go.Rel.pure_sp rfl | exact Go.Rel.pure_yes (by kernel_rfl) (fun _ => by kernel_rfl) | exact Go.Rel.pure_no (by kernel_rfl) rfl) ?_)
                  exact .nil
                · refine ⟨?_, ?_, ?_, ?_, trivial⟩
                  · exact SpecOk.ld hrd hre (q := .pointer (some ⟨B, 0, none⟩)) (h := fun _ w' hI _ _ _ _ => by have cb := ro_ptrs ((hI.block B HLb.out).trans HKb.out); go_simp; rfl)
                  · exact SpecOk.ld hrd hre (q := .pointer (some ⟨X, 0, none⟩)) (h := fun _ w' hI _ _ _ _ => by have cc := sv_blk ((hI.block X HLx.out).trans HKx.out); go_simp; rfl)
                  · refine SpecOk.call 52 #[.int .i64 x.val.a.node, .string { data := #[] }] rfl (by kernel_rfl) (fun _ => by kernel_rfl) fun _ w' hI _ _ _ _ => ?_
                    refine (HK0.out w' hI).mono ?_
                    rintro e w2 ⟨rfl, hb9⟩
                    exact ⟨_, rfl, hb9, (hI.trans (hb9.mono hI.size)), rfl⟩
                  · refine SpecOk.call 59 #[.pointer (some ⟨B1, 0, none⟩), .string k0] rfl (by kernel_rfl) (fun _ => by kernel_rfl) fun _ w' hI _ _ _ _ => ?_
                    refine (HH0.out w' hI).mono ?_
                    rintro e w2 ⟨rfl, hb9⟩
                    exact ⟨_, rfl, hb9, (hI.trans (hb9.mono hI.size)), rfl⟩
                · intro f W2 e hall hJ hle hv
                  have v9 := hv 9 rfl
                  simp only [Go.Rel.finL, List.setIfInBounds_toArray, List.set_cons_succ, List.set_cons_zero]
                  rw [show e 9 = .bool false from v9]
                  have HJ : Hid (Below w.heap.size w W2) := Lib.hid (HB1.out.trans ((HB.out.trans (hJ.mono HB.out.size)).mono HB1.out.size))
                  have HJ0 := Lib.hid hJ
                  clear hv hall hle hJ v9
                  have hA := (HA.out.below HJ0.out)
                  have HA := Lib.hid hA
                  have HKb := Lib.hid hA.ptr
                  have HLb := Lib.hid hA.lt
                  have hkx := (HJ0.out.block X HLx.out).trans HKx.out
                  have HKx := Lib.hid hkx
                  have HLx := Lib.hid (block_lt hkx)
                  have HM2 : Hid (∀ k, k = B2 → k < W2.heap.size) := Lib.hid fun k e => by rw [e]; exact hA.lts.2.1
                  have HOf := Lib.hid ofService_any
                  have hin2 := HIn.out.below (HB.out.trans (HJ0.out.mono HB.out.size))
                  have HRw := Lib.hid (fun W (hW : Below W2.heap.size W2 W) => (by
                    have := rowService_any x W (hin2.tx.below hW) (by have := HN4.out; omega) hin2.node HIl.out (hA.pw.below hW)
                    unfold svV Vt.trV SvA.key at this
                    rw [HHk.out] at this
                    exact this.mono fun e w' ⟨A, c, q1, q2, q3, q4⟩ => ⟨A, c, q1, q2, fun b off e => Nat.le_trans hW.size (q3 b off e), q4⟩ : Calls Tryz.prog 93 #[.agg #[.int .i64 x.val.a.node, .string x.val.a.id, .string x.val.a.name, .slice x.val.A x.val.n x.val.c, .int .i64 x.val.a.port, .int .u64 (x.made : Int), .int .u64 (x.ix : Int)]] W fun e w' => ∃ A c, e = .returned (.agg #[.string k, .int .i64 x.val.a.node, .string x.val.a.id, .string x.val.a.name, .slice A x.val.n c, .int .i64 x.val.a.port, .int .u64 (x.made : Int), .int .u64 (x.ix : Int), .int .u64 (x.made : Int), .int .u64 (x.ix : Int)]) ∧ Tx w' A x.val.n c x.val.a.tags ∧ (∀ b off, A = some ⟨b, off, none⟩ → W2.heap.size ≤ b) ∧ Below W.heap.size W w'))
                  have HLay := Lib.hid (fun W (hW : Below W2.heap.size W2 W) (A : Option Addr) (c : Nat) (hs : Tx W A x.val.n c x.val.a.tags ∧ ∀ b off, A = some ⟨b, off, none⟩ → W2.heap.size ≤ b) => (by
                    have := layS_any (S := fun k => S k ∨ W2.heap.size ≤ k) ((hA.below hW).narrow fun _ _ z => .inl z) ⟨k, { x.val with A := A, c := c, jm := x.made, ji := x.ix }, x.made, x.ix⟩ i HI.out HKs.out ⟨hs.1, fun b off e hn => by have := hs.2 b off e; have := hA.lts; exact ⟨.inr (by omega), by omega, by omega, by omega⟩⟩
                    unfold Vt.trV at this
                    rw [HEr.out] at this
                    exact this.mono fun e w' ⟨q1, q2, q3⟩ => ⟨q1, q2.narrow fun k _ z => by rcases z with z | z; exact z; exact .inr (Nat.le_trans hW.size z), q3⟩ : Calls Tryz.prog 75 #[.pointer (some ⟨B2, 0, none⟩), .agg #[.string k, .int .i64 x.val.a.node, .string x.val.a.id, .string x.val.a.name, .slice A x.val.n c, .int .i64 x.val.a.port, .int .u64 (x.made : Int), .int .u64 (x.ix : Int), .int .u64 (x.made : Int), .int .u64 (x.ix : Int)], .int .u64 (i : Int)] W fun e w' => e = .returned (.int .i64 (er : Int)) ∧ RoIs (fun k => S k ∨ W2.heap.size ≤ k) w' B B1 B2 B3 T1 (T2.putT k { x.val with A := A, c := c, jm := x.made, ji := x.ix } i) T3 ∧ But (· = B2) W w'))
                  clear hA hkx HK0 HH0 hin2
                  go_wp2_with fail
                  obtain ⟨ii, hii⟩ : ∃ ii, i = ii := ⟨_, rfl⟩
                  have HLay := HLay
                  rw [hii] at HLay HD ⊢
                  clear hii
                  have hre : ∀ w : World, (But (OldB W2)) w w := (fun w => But.refl _ w)
                  have hrd : ∀ (f : Nat → Bool) w i, i ≠ 9 → (TI 9 W2 (fun w => ∃ A c, RoIs (fun k => S k ∨ W2.heap.size ≤ k) w B B1 B2 B3 T1 (T2.putT k { x.val with A := A, c := c, jm := x.made, ji := x.ix } ii) T3 ∧ But (· = B2) W2 w)) f w → (TI 9 W2 (fun w => ∃ A c, RoIs (fun k => S k ∨ W2.heap.size ≤ k) w B B1 B2 B3 T1 (T2.putT k { x.val with A := A, c := c, jm := x.made, ji := x.ix } ii) T3 ∧ But (· = B2) W2 w)) (Go.Rel.upd f i) w := (fun _ _ _ hi h => h.read hi)
                  refine Go.Rel.wp_tab (by kernel_rfl) (by kernel_rfl) (TI 9 W2 (fun w => ∃ A c, RoIs (fun k => S k ∨ W2.heap.size ≤ k) w B B1 B2 B3 T1 (T2.putT k { x.val with A := A, c := c, jm := x.made, ji := x.ix } ii) T3 ∧ But (· = B2) W2 w)) (But (OldB W2)) hre ((fun _ _ _ h k => h.trans k)) (OldB.drew) TI.start (rslE B B2 X x ii er) (fun | 7, v, w => ∃ A c, v = .agg #[.string k, .int .i64 x.val.a.node, .string x.val.a.id, .string x.val.a.name, .slice A x.val.n c, .int .i64 x.val.a.port, .int .u64 (x.made : Int), .int .u64 (x.ix : Int), .int .u64 (x.made : Int), .int .u64 (x.ix : Int)] ∧ Tx w A x.val.n c x.val.a.tags ∧ ∀ b off, A = some ⟨b, off, none⟩ → W2.heap.size ≤ b | _, _, _ => True) (fun i => ([7] : List Nat).contains i) (fun i => ([3, 4, 6, 7, 9] : List Nat).contains i) (by kernel_rfl) (fun i v w w' h g => by revert h; split <;> intro h <;> first | exact h | trivial | (obtain ⟨A, c, e, k1, k2⟩ := h; exact ⟨A, c, e, ⟨k1.row.but g (fun b off e hn z => absurd z (by have := k2 b off e; unfold OldB; omega)), k1.le, k1.max, k1.nil⟩, k2⟩)) 9 rfl hrd ?_ (Go.Rel.AllOf.get ?_) ?_
                  · repeat (refine .cons (by first | exact Go.Rel.pure_sp rfl | exact Go.Rel.pure_yes (by kernel_rfl) (fun _ => by kernel_rfl) | exact Go.Rel.pure_no (by kernel_rfl) rfl) ?_)
                    exact .nil
                  · refine ⟨?_, ?_, ?_, ?_, ?_, trivial⟩
                    · exact SpecOk.ld hrd hre (q := .pointer (some ⟨B, 1, none⟩)) (h := fun _ w' hI _ hdesc _ _ => by have cb := ro_ptrs (((hI.ahead (hdesc 60 9 (by kernel_rfl))).block B HLb.out).trans HKb.out); go_simp; rfl)
                    · refine SpecOk.gen (fun e => []) rfl rfl (fun _ => by kernel_rfl) fun f w' e hI hf hdesc hanc hle hX K hK => ?_
                      go_simp
                      have zL : f 9 = false := hdesc 60 9 (by kernel_rfl)
                      refine (HOf.out w').mono ?_
                      rintro e9 w9 ⟨rfl, hb9⟩
                      exact hK _ _ (But.of_below hb9) (hI.below zL hb9 (by decide)) rfl
                    · exact SpecOk.ld hrd hre (q := .pointer (some ⟨X, 0, none⟩)) (h := fun _ w' hI _ hdesc _ _ => by have cc := sv_blk (((hI.ahead (hdesc 60 9 (by kernel_rfl))).block X HLx.out).trans HKx.out); go_simp; rfl)
                    · refine SpecOk.gen (fun e => [(58, .func (.func 93) #[] #[]), (59, .agg #[.int .i64 x.val.a.node, .string x.val.a.id, .string x.val.a.name, .slice x.val.A x.val.n x.val.c, .int .i64 x.val.a.port, .int .u64 (x.made : Int), .int .u64 (x.ix : Int)])]) rfl rfl (fun _ => by kernel_rfl) fun f w' e hI hf hdesc hanc hle hX K hK => ?_
                      go_simp
                      have zL : f 9 = false := hdesc 60 9 (by kernel_rfl)
                      refine (HRw.out w' (hI.ahead zL)).mono ?_
                      rintro e9 w9 ⟨A9, c9, rfl, tx9, ge9, hb9⟩
                      exact hK _ _ (But.of_below hb9) (hI.below zL hb9 (by decide)) ⟨A9, c9, rfl, tx9, ge9⟩
                    · refine SpecOk.gen (fun e => [(56, .pointer (some ⟨B2, 0, none⟩)), (60, e 7), (61, .int .u64 (ii : Int))]) rfl rfl (fun _ => by kernel_rfl) fun f w' e hI hf hdesc hanc hle hX K hK => ?_
                      obtain ⟨A7, c7, e7, s7⟩ := hX 7 rfl rfl
                      simp only [e7]
                      go_simp
                      refine (HLay.out w' (hI.ahead hf) A7 c7 s7).mono ?_
                      rintro e9 w9 ⟨rfl, h9, hb9⟩
                      exact hK _ _ (But.oldB hb9 HM2.out) (TI.last ⟨A7, c7, h9, (But.of_below (hI.ahead hf)).trans hb9⟩) rfl
                  · intro f w3 e hall hJ hle hv
                    have HJ2 := Lib.hid (hJ.done_ (hall 9 (by decide)))
                    have v9 := hv 10 rfl
                    simp only [Go.Rel.finL, List.setIfInBounds_toArray, List.set_cons_succ, List.set_cons_zero]
                    rw [show e 10 = .int .i64 (er : Int) from v9]
                    clear hv hall hle hJ v9
                    go_wp2
                    go_ret
                    obtain ⟨A, c, q1, q2⟩ := HJ2.out
                    exact ⟨rfl, ⟨HOk2.out, _, _, _, q1.narrow fun k _ z => z.imp (fun z => z) (Nat.le_trans HJ.out.size), HE.out.1.trans HD.out.1.symm, HD.out.2.2 _ rfl, HE.out.2.2.trans HD.out.2.1.symm⟩, (But.of_below HJ.out).trans (but2 q2)⟩
end Go.Proofs.YtilkbfmaofmjoaaGreatDoor
