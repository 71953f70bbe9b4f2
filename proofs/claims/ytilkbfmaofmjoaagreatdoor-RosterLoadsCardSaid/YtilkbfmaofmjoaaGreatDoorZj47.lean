import Derived.Test.YtilkbfmaofmjoaaGreatDoorZj41
namespace Go.Proofs.YtilkbfmaofmjoaaGreatDoor
open Go.RowKit
set_option linter.unusedSimpArgs false
set_option linter.unusedVariables false
theorem forSvc_eq (s : ByteArray) (v : CkA) : forSvc s v = (decide (v.svc = noT) || decide (v.svc = s)) := by
  unfold forSvc
  rw [Bool.eq_iff_iff]
  simp only [Bool.or_eq_true, text_same, decide_eq_true_eq]
def wkN : NdA := ⟨1, ⟨#[120]⟩⟩
def wkS : Rw SvW := (⟨noT, ⟨⟨1, ⟨#[119, 101, 98, 45, 49]⟩, ⟨#[119, 101, 98]⟩, [], 0⟩, none, 0, 0, 0, 0⟩, 0, 0⟩ : Rw SvW)
def wkC : Rw CkA := (⟨noT, ⟨1, ⟨#[99]⟩, ⟨#[119, 101, 98, 45, 49]⟩, ⟨#[]⟩, 2⟩, 0, 0⟩ : Rw CkA)
theorem wk_plain : ∃ d1 d2 d3, (Ro.new 9).node wkN 3 = (0, d1) ∧ d1.service wkS.val.a 4 = (0, d2) ∧ d2.check wkC.val 5 = (0, d3) ∧ d3.health 1 ⟨#[119, 101, 98, 45, 49]⟩ = 2 ∧ d3.health 1 ⟨#[100, 98]⟩ = 0 := by
  have hn : NdOk wkN := ⟨by decide, by decide⟩
  have hs : SvOk wkS.val.a := ⟨by decide, by decide, by decide, by decide, by decide⟩
  have hc : CkOk wkC.val := ⟨by decide, by decide, by decide, .inr (by decide), by decide⟩
  obtain ⟨k1, hk1⟩ : ∃ k, wkN.key = k := ⟨_, rfl⟩
  obtain ⟨k2, hk2⟩ : ∃ k, wkS.val.a.key = k := ⟨_, rfl⟩
  obtain ⟨k3, hk3⟩ : ∃ k, wkC.val.key = k := ⟨_, rfl⟩
  have e1 : (Ro.new 9).node wkN 3 = (0, ⟨⟨9, [⟨k1, wkN, 3, 3⟩], 3⟩, ⟨9, [], 0⟩, ⟨9, [], 0⟩⟩) := by
    unfold Ro.node
    rw [wrongN_ok.2 hn, hk1]
    rfl
  have t1 : ∀ (s : Tb SvA) (c : Tb CkA), Ro.there ⟨⟨9, [⟨k1, wkN, 3, 3⟩], 3⟩, s, c⟩ 1 = true := fun s c => getR_iff.2 ⟨_, List.mem_singleton.2 rfl, hk1.symm⟩
  have e2 : Ro.service ⟨⟨9, [⟨k1, wkN, 3, 3⟩], 3⟩, ⟨9, [], 0⟩, ⟨9, [], 0⟩⟩ wkS.val.a 4 = (0, ⟨⟨9, [⟨k1, wkN, 3, 3⟩], 3⟩, ⟨9, [⟨k2, wkS.val.a, 4, 4⟩], 4⟩, ⟨9, [], 0⟩⟩) := by
    unfold Ro.service
    rw [wrongS_ok.2 ⟨hs, t1 _ _⟩, hk2]
    rfl
  have t2 : Ro.has ⟨⟨9, [⟨k1, wkN, 3, 3⟩], 3⟩, ⟨9, [⟨k2, wkS.val.a, 4, 4⟩], 4⟩, ⟨9, [], 0⟩⟩ 1 ⟨#[119, 101, 98, 45, 49]⟩ = true := getR_iff.2 ⟨_, List.mem_singleton.2 rfl, hk2.symm⟩
  have e3 : Ro.check ⟨⟨9, [⟨k1, wkN, 3, 3⟩], 3⟩, ⟨9, [⟨k2, wkS.val.a, 4, 4⟩], 4⟩, ⟨9, [], 0⟩⟩ wkC.val 5 = (0, ⟨⟨9, [⟨k1, wkN, 3, 3⟩], 3⟩, ⟨9, [⟨k2, wkS.val.a, 4, 4⟩], 4⟩, ⟨9, [⟨k3, wkC.val, 5, 5⟩], 5⟩⟩) := by
    unfold Ro.check
    rw [wrongC_ok.2 ⟨hc, t1 _ _, .inr t2⟩, hk3]
    rfl
  exact ⟨_, _, _, e1, e2, e3, by unfold Ro.health worst; simp only [forSvc_eq]; rfl, by unfold Ro.health worst; simp only [forSvc_eq]; rfl⟩
set_option maxHeartbeats 4000000 in
set_option maxRecDepth 100000 in
theorem works_any (w : World) (hp : PwIs w) : Calls Tryz.prog 15 #[] w fun e w' => e = .returned (.bool true) ∧ Below w.heap.size w w' := by
  obtain ⟨d1, d2, d3, e1, e2, e3, e4, e5⟩ := wk_plain
  have HE1 := Lib.hid e1
  have HE2 := Lib.hid e2
  have HE3 := Lib.hid e3
  have HE4 := Lib.hid (And.intro e4 e5)
  have HN := Lib.hid (rnew_any 9 w (by decide) hp)
  clear e1 e2 e3 e4 e5 hp
  go_enter Tryz.func15, Tryz.ntmps15
  go_wp2_with fail
  refine HN.out.mono ?_
  rintro e w1 ⟨B, B1, B2, B3, rfl, h, hb⟩
  have HB : Hid (∀ w2, But (Ch3 B1 B2 B3) w1 w2 → Below w.heap.size w w2) := Lib.hid fun w2 h2 => hb.trans (h2.below hb.size fun k hk e => by have := (h.ch k e).1; have := (h.ch k e).2.2.1; omega)
  have hx := rnode_any 1 ⟨#[120]⟩ 3 h (by decide) (by decide) (by decide)
  rw [show (⟨1, ⟨#[120]⟩⟩ : NdA) = wkN from rfl, show mostT 9 = 9 from rfl, HE1.out] at hx
  have HX := Lib.hid hx
  clear h hb hx HN
  go_wp2_with fail
  refine HX.out.mono ?_
  rintro e w2 ⟨rfl, h, hb⟩
  have HB2 := Lib.hid hb
  have hx := rservice_any wkS 4 h ⟨by decide, by decide, by decide, by decide, Tx.none_ _, by simp [Small, wkS]⟩ (by decide)
  rw [HE2.out] at hx
  have HX2 := Lib.hid hx
  unfold svV wkS at HX2
  clear h hb hx HX
  go_wp2_with fail
  refine HX2.out.mono ?_
  rintro e w3 ⟨rfl, h, hb⟩
  have HB3 := Lib.hid (HB2.out.trans hb)
  have hx := rcheck_any wkC 5 h ⟨by decide, by decide, by decide, by decide, by decide⟩ (by decide)
  rw [HE3.out] at hx
  have HX3 := Lib.hid hx
  unfold ckV wkC at HX3
  clear h hb hx HX2
  go_wp2_with fail
  refine HX3.out.mono ?_
  rintro e w4 ⟨rfl, h, hb⟩
  have HB4 := Lib.hid (HB.out _ (HB3.out.trans hb))
  have HA := Lib.hid h
  have hx := rhealth_any 1 ⟨#[119, 101, 98, 45, 49]⟩ h (by decide)
  rw [HE4.out.1] at hx
  have HX4 := Lib.hid hx
  clear h hb hx HX3
  go_wp2_with fail
  refine HX4.out.mono ?_
  rintro e w5 ⟨rfl, hb⟩
  have hx := rhealth_any 1 ⟨#[100, 98]⟩ (HA.out.below hb) (by decide)
  rw [HE4.out.2] at hx
  have HX5 := Lib.hid hx
  have HB5 := Lib.hid (HB4.out.trans (hb.mono HB4.out.size))
  clear hb hx HX4
  go_wp2_with fail
  refine HX5.out.mono ?_
  rintro e w6 ⟨rfl, hb⟩
  have HB6 := Lib.hid (HB5.out.trans (hb.mono HB5.out.size))
  clear hb HX5
  go_wp2
  go_ret
  exact ⟨rfl, HB6.out⟩
end Go.Proofs.YtilkbfmaofmjoaaGreatDoor
