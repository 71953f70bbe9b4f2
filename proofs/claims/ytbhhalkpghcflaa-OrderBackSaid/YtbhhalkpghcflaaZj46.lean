/-
  What Put hands back, whatever it was given; and as text (layer 20).
-/
import Derived.Test.YtbhhalkpghcflaaZj24
import Derived.Test.YtbhhalkpghcflaaZj38
import Derived.Test.YtbhhalkpghcflaaZj41
import Derived.Test.YtbhhalkpghcflaaZj45
namespace Go.Proofs.Ytbhhalkpghcflaa
open Go.RowKit
set_option linter.unusedSimpArgs false
set_option linter.unusedVariables false

theorem bs_nil (w : World) : Bs w (.slice none 0 0) [] := ⟨none, 0, rfl, ⟨rfl, fun h => absurd h (by decide)⟩, fun _ => rfl, Nat.le_refl _, by decide⟩
theorem bs_conv {w : World} {v : Value} {ys : List UInt8} (h : Bs w v ys) : (convert 32 9 v).run Try.prog w = .ok (.string ⟨ys.toArray⟩) w := by
  obtain ⟨A, c, rfl, h, _⟩ := h.ex
  rcases Nat.eq_zero_or_pos ys.length with h0 | hp
  · obtain rfl : ys = [] := List.eq_nil_of_length_eq_zero h0
    rw [show ([] : List UInt8).length = 0 from rfl, run_convert_bytes_string w _ _ _ _ 0 c Try.underlying32 Try.underlying5 Try.underlying9]
    cases A <;> simp [Conv.bytesToString, loadCells]
    all_goals rfl
  · obtain ⟨b, off, rfl, _, hc⟩ := h.2 hp
    refine run_convert_bytes_back w _ _ _ ⟨b, off, none⟩ c ys Try.underlying32 Try.underlying5 Try.underlying9 fun j hj => ?_
    rw [plain_add, hc j (by simpa using hj)]
    first | done | simp [byteV]
/-- What Put hands back, with its word. -/
def PutU (w : World) (n : Int) (zs : List UInt8) (e : Ending) (w' : World) : Prop := ∃ v, e = .returned (.tuple #[v, .int .i64 n]) ∧ Bs w' v zs ∧ Below w.heap.size w w'
theorem PutP.uni {w w' : World} {ok : Bool} {ys : List UInt8} {e : Ending} (h : PutP w ok ys e w') : PutU w (cond ok 0 2) (cond ok ys []) e w' := by
  obtain ⟨hb, h1, h2⟩ := h
  cases ok with
  | false => exact ⟨_, h1 rfl, bs_nil w', hb⟩
  | true =>
    obtain ⟨v, h3, h4⟩ := h2 rfl
    exact ⟨v, h3, h4, hb⟩
end Go.Proofs.Ytbhhalkpghcflaa
/-
  The law's works (layer 20).
-/
namespace Go.Proofs.Ytbhhalkpghcflaa
open Go.RowKit
set_option linter.unusedSimpArgs false
set_option linter.unusedVariables false

theorem numB_byte {n : Nat} (h0 : 0 < n) (h : n < 256) : numB n = [1, UInt8.ofNat n] := by
  rw [numB, digs_pos (show n ≠ 0 by omega), show n / 256 = 0 by omega, digs_zero]
  simp
  rw [Nat.mod_eq_of_lt h]
def wkX : CmW := ⟨10, 0, 0, 0, [], [], [], [], [97], [49], [], [], none, 0, 0, false, 0, 0, none, 0, 0⟩
theorem wk_small : CmS wkX := by
  refine ⟨by decide, ?_, ?_, by decide, by decide, by decide, by decide⟩
  · intro z hz
    have : z = 0 := by simpa [CmW.nums, wkX] using hz
    subst this
    decide
  · intro s hs
    have : s = [] ∨ s = [97] ∨ s = [49] := by
      simp only [CmW.texts, wkX, List.mem_cons, List.not_mem_nil, or_false] at hs
      rcases hs with h | h | h | h | h | h | h | h <;> simp [h]
    rcases this with rfl | rfl | rfl <;> (unfold maxLen; simp)
theorem wk_cm (w : World) : Cm1 w wkX [] [] := by
  refine ⟨⟨wk_small, ⟨rfl, fun h => absurd h (by decide)⟩, fun s h => by cases h⟩, ?_, fun y h => by cases h⟩
  exact ⟨rfl, fun h => absurd h (by decide)⟩
theorem wk_bytes : ordB 1 5 wkX [] [] = [1, 1, 1, 5, 1, 10, 1, 1, 97, 1, 1, 49] := by
  have e1 : ordB 1 5 wkX [] [] = numB 1 ++ numB 5 ++ (numB 10 ++ [] ++ [] ++ [] ++ [] ++ [] ++ [] ++ [] ++ (numB 1 ++ [97]) ++ (numB 1 ++ [49]) ++ [] ++ [] ++ [] ++ [] ++ [] ++ [] ++ []) := rfl
  rw [e1, numB_byte (n := 1) (by decide) (by decide), numB_byte (n := 5) (by decide) (by decide), numB_byte (n := 10) (by decide) (by decide)]
  rfl
set_option maxRecDepth 100000 in
theorem works_any (w : World) : Calls Try.prog 10 #[] w (YesB true w) := by
  have C := Lib.hid (Put_any 1 5 wkX [] [] w (wk_cm w) (by decide) (by decide))
  rw [wk_bytes, show ordOk 1 wkX [] [] = true by decide] at C
  unfold orV cmC strV wkX at C
  go_enter Try.func10, Try.ntmps10
  go_wp2_with fail
  refine C.out.mono ?_
  rintro e w1 ⟨hb, _, h1⟩
  obtain ⟨v, rfl, hv⟩ := h1 rfl
  obtain ⟨A, c, rfl, hr, hn, hnc, hcm⟩ := hv.ex
  have hr : RB w1 A 12 [1, 1, 1, 5, 1, 10, 1, 1, 97, 1, 1, 49] := hr
  have k1 := own_conv hr c
  have HB := Lib.hid hb
  clear hb h1 hv hr hn hnc hcm C
  go_wp2
  go_ret
  exact ⟨rfl, HB.out⟩
end Go.Proofs.Ytbhhalkpghcflaa
/-
  The law OrderBack, walked (layer 20).
-/
namespace Go.Proofs.Ytbhhalkpghcflaa
open Go.RowKit
set_option linter.unusedSimpArgs false
set_option linter.unusedVariables false

/-- What was put is read back as it was. -/
theorem back_plain {w : World} {x : CmW} {tags : List (List UInt8)} {subs : List Sub} {cl sq : Nat} (h : Cm1 w x tags subs) (hok : ordOk (cl : Int) x tags subs = true) (hsq : sq < 4294967296) :
    errO (ordB (cl : Int) sq x tags subs) = 0 ∧ (orderC.rd ⟨ordB (cl : Int) sq x tags subs, 0⟩).1 = (cl, sq, (x.kind.toNat, x.vals tags), subs.map absS) ∧ (ordB (cl : Int) sq x tags subs).length ≤ 1000000 ∧ 0 ≤ x.kind ∧ (∀ y ∈ subs, 0 ≤ y.1.kind ∧ y.1.sn = 0) ∧ cmdC.ok ((x.kind.toNat, x.vals tags), subs.map absS) := by
  unfold ordOk at hok
  rw [Bool.and_eq_true, Bool.and_eq_true, decide_eq_true_eq, decide_eq_true_eq] at hok
  obtain ⟨⟨h1, h2⟩, h3⟩ := hok
  have h4 := (cmd_ok h).1 h1
  have h5 := order_back (x := (cl, sq, (x.kind.toNat, x.vals tags), subs.map absS)) ⟨show cl ≤ 255 by omega, show sq ≤ 4294967295 by omega, h4.2.2⟩ (by omega)
  rw [← ord_lay cl sq h h1] at h5
  refine ⟨h5.1, h5.2, ?_, h4⟩
  have h6 := cmdB_le h h1
  have h7 := numB_le (n := cl) (by omega)
  have h8 := numB_le (n := sq) (by omega)
  unfold ordB
  rw [List.length_append, List.length_append, Int.toNat_natCast]
  omega
set_option maxRecDepth 100000 in
set_option maxHeartbeats 4000000 in
theorem back_law (cl : Int) (sq : Nat) (x : CmW) (tags : List (List UInt8)) (subs : List Sub) (w : World) (h : Cm1 w x tags subs) (hcl : -9223372036854775808 ≤ cl ∧ cl ≤ 9223372036854775807) (hsq : sq < 4294967296) : Calls Try.prog 6 #[orV cl sq x] w (YesB true w) := by
  have hb0 := (Below.refl _ w).alloc (Nat.le_refl _) (.cells #[.int .i64 cl, .int .u32 (sq : Int), .int .i64 x.kind, .int .i64 x.node, .int .i64 x.port, .int .i64 x.status, .string ⟨x.id.toArray⟩, .string ⟨x.name.toArray⟩, .string ⟨x.svc.toArray⟩, .string ⟨x.note.toArray⟩, .string ⟨x.key.toArray⟩, .string ⟨x.val.toArray⟩, .string ⟨x.src.toArray⟩, .string ⟨x.dst.toArray⟩, .slice x.tA x.tn x.tc, .bool x.allow, .int .u64 (x.old : Int), .int .u64 (x.ses : Int), .slice x.sA x.sn x.sc] TOr)
  have CP : Hid (∀ W, Below w.heap.size w W → Calls Try.prog 11 #[.agg #[.int .i64 cl, .int .u32 (sq : Int), .int .i64 x.kind, .int .i64 x.node, .int .i64 x.port, .int .i64 x.status, .string ⟨x.id.toArray⟩, .string ⟨x.name.toArray⟩, .string ⟨x.svc.toArray⟩, .string ⟨x.note.toArray⟩, .string ⟨x.key.toArray⟩, .string ⟨x.val.toArray⟩, .string ⟨x.src.toArray⟩, .string ⟨x.dst.toArray⟩, .slice x.tA x.tn x.tc, .bool x.allow, .int .u64 (x.old : Int), .int .u64 (x.ses : Int), .slice x.sA x.sn x.sc]] W (PutP W (ordOk cl x tags subs) (ordB cl sq x tags subs))) := Lib.hid (fun W hW => Put_any cl sq x tags subs W (h.below hW) hcl hsq)
  have CW := Lib.hid (fun W => works_any W)
  have HOB : Hid (World.rangeAt (w.alloc (.cells #[.int .i64 cl, .int .u32 (sq : Int), .int .i64 x.kind, .int .i64 x.node, .int .i64 x.port, .int .i64 x.status, .string ⟨x.id.toArray⟩, .string ⟨x.name.toArray⟩, .string ⟨x.svc.toArray⟩, .string ⟨x.note.toArray⟩, .string ⟨x.key.toArray⟩, .string ⟨x.val.toArray⟩, .string ⟨x.src.toArray⟩, .string ⟨x.dst.toArray⟩, .slice x.tA x.tn x.tc, .bool x.allow, .int .u64 (x.old : Int), .int .u64 (x.ses : Int), .slice x.sA x.sn x.sc] TOr)) w.heap.size 0 [.int .i64 cl, .int .u32 (sq : Int), .int .i64 x.kind, .int .i64 x.node, .int .i64 x.port, .int .i64 x.status, .string ⟨x.id.toArray⟩, .string ⟨x.name.toArray⟩, .string ⟨x.svc.toArray⟩, .string ⟨x.note.toArray⟩, .string ⟨x.key.toArray⟩, .string ⟨x.val.toArray⟩, .string ⟨x.src.toArray⟩, .string ⟨x.dst.toArray⟩, .slice x.tA x.tn x.tc, .bool x.allow, .int .u64 (x.old : Int), .int .u64 (x.ses : Int), .slice x.sA x.sn x.sc]) := Lib.hid (or_box w cl sq x)
  have HB := Lib.hid hb0
  have H := Lib.hid h
  have HSQ := Lib.hid hsq
  clear h hb0 hcl hsq
  cases hok : ordOk cl x tags subs with
  | false =>
    rw [hok] at CP
    clear hok
    unfold orV cmC strV
    go_enter Try.func6, Try.ntmps6
    go_wp2_with (refine wpList_load_mid rfl TOr (.tmp 1) rfl w.heap.size 0 rfl [.int .i64 cl, .int .u32 (sq : Int), .int .i64 x.kind, .int .i64 x.node, .int .i64 x.port, .int .i64 x.status, .string ⟨x.id.toArray⟩, .string ⟨x.name.toArray⟩, .string ⟨x.svc.toArray⟩, .string ⟨x.note.toArray⟩, .string ⟨x.key.toArray⟩, .string ⟨x.val.toArray⟩, .string ⟨x.src.toArray⟩, .string ⟨x.dst.toArray⟩, .slice x.tA x.tn x.tc, .bool x.allow, .int .u64 (x.old : Int), .int .u64 (x.ses : Int), .slice x.sA x.sn x.sc] _ HOB.out Try.underlying31 rfl (by kernel_rfl) ?_)
    refine (CP.out _ HB.out).mono ?_
    rintro e w2 ⟨hb2, he, _⟩
    obtain rfl := he rfl
    have HB2 := Lib.hid (HB.out.trans (hb2.mono HB.out.size))
    clear hb2 HB HOB he
    go_wp2_with (go_at_call 10; refine (CW.out _).mono ?_; rintro e w4 ⟨rfl, hb4⟩; have HB4 := Lib.hid (HB2.out.trans (hb4.mono HB2.out.size)); clear hb4)
    go_ret
    exact ⟨rfl, HB4.out⟩
  | true =>
    obtain ⟨cn, hcn⟩ : ∃ cn : Nat, cl = cn := by
      unfold ordOk at hok
      rw [Bool.and_eq_true, Bool.and_eq_true, decide_eq_true_eq, decide_eq_true_eq] at hok
      exact ⟨cl.toNat, by omega⟩
    have HPL := Lib.hid (back_plain H.out (cl := cn) (sq := sq) (by rw [← hcn]; exact hok) HSQ.out)
    rw [← hcn] at HPL
    rw [hok] at CP
    obtain ⟨ys, hys⟩ : ∃ ys, ordB cl sq x tags subs = ys := ⟨_, rfl⟩
    rw [hys] at CP HPL
    have CG := Lib.hid (fun v W (hv : Bs W v ys) => Get_any v ys W hv (by have := HPL.out.2.2.1; omega))
    have HCN := Lib.hid hcn
    clear hys hok hcn
    unfold orV cmC strV
    go_enter Try.func6, Try.ntmps6
    go_wp2_with (refine wpList_load_mid rfl TOr (.tmp 1) rfl w.heap.size 0 rfl [.int .i64 cl, .int .u32 (sq : Int), .int .i64 x.kind, .int .i64 x.node, .int .i64 x.port, .int .i64 x.status, .string ⟨x.id.toArray⟩, .string ⟨x.name.toArray⟩, .string ⟨x.svc.toArray⟩, .string ⟨x.note.toArray⟩, .string ⟨x.key.toArray⟩, .string ⟨x.val.toArray⟩, .string ⟨x.src.toArray⟩, .string ⟨x.dst.toArray⟩, .slice x.tA x.tn x.tc, .bool x.allow, .int .u64 (x.old : Int), .int .u64 (x.ses : Int), .slice x.sA x.sn x.sc] _ HOB.out Try.underlying31 rfl (by kernel_rfl) ?_)
    refine (CP.out _ HB.out).mono ?_
    rintro e w2 ⟨hb2, _, he⟩
    obtain ⟨v, rfl, hv⟩ := he rfl
    have HV := Lib.hid hv
    have HO2 := Lib.hid (range_below HOB.out hb2 (by simp))
    have HLT := Lib.hid (Nat.lt_of_lt_of_le (show w.heap.size < (w.alloc (.cells #[.int .i64 cl, .int .u32 (sq : Int), .int .i64 x.kind, .int .i64 x.node, .int .i64 x.port, .int .i64 x.status, .string ⟨x.id.toArray⟩, .string ⟨x.name.toArray⟩, .string ⟨x.svc.toArray⟩, .string ⟨x.note.toArray⟩, .string ⟨x.key.toArray⟩, .string ⟨x.val.toArray⟩, .string ⟨x.src.toArray⟩, .string ⟨x.dst.toArray⟩, .slice x.tA x.tn x.tc, .bool x.allow, .int .u64 (x.old : Int), .int .u64 (x.ses : Int), .slice x.sA x.sn x.sc] TOr)).heap.size by simp) hb2.size)
    have HB2 := Lib.hid (HB.out.trans (hb2.mono HB.out.size))
    clear hb2 HB HOB he hv
    go_wp2_with fail
    refine (CG.out _ _ HV.out).mono ?_
    rintro e w3 ⟨hb3, hq3⟩
    rcases hq3 with ⟨h1, _⟩ | ⟨_, cl2, sq2, y, su2, rfl, hc15, hs32, hcm, hk0, hz0, heq⟩
    · exact absurd HPL.out.1 h1
    · rw [HPL.out.2.1] at heq
      simp only [Prod.mk.injEq] at heq
      obtain ⟨e1, e2, ⟨e3, e4⟩, e5⟩ := heq
      have HO3 := Lib.hid (range_below HO2.out hb3 HLT.out)
      have HB3 := Lib.hid (HB2.out.trans (hb3.mono HB2.out.size))
      have HLT3 := Lib.hid (Nat.lt_of_lt_of_le HLT.out hb3.size)
      have hxk : x.kind = y.1.kind := by have := HPL.out.2.2.2.1; omega
      obtain ⟨t1, t2, t3⟩ := ok_small H.out HPL.out.2.2.2.2.2
      have CS : Hid (∀ W, Below w3.heap.size w3 W → Calls Try.prog 32 #[cmV x, cmV y.1] W (YesB true W)) := Lib.hid (fun W hW => rsame1 (H.out.below (HB3.out.trans (hW.mono HB3.out.size))) (hcm.below hW) hxk e4.symm e5.symm HPL.out.2.2.2.2.1 (fun z hz => ⟨(hz0 z hz).2, (hz0 z hz).1⟩) t1 t2 t3)
      have ecl : cl = (cl2 : Int) := by have := HCN.out; omega
      have CL : Hid (∀ W, Below w3.heap.size w3 W → Calls Try.prog 15 #[.agg #[.int .i64 cl, .int .u32 (sq : Int), .int .i64 x.kind, .int .i64 x.node, .int .i64 x.port, .int .i64 x.status, .string ⟨x.id.toArray⟩, .string ⟨x.name.toArray⟩, .string ⟨x.svc.toArray⟩, .string ⟨x.note.toArray⟩, .string ⟨x.key.toArray⟩, .string ⟨x.val.toArray⟩, .string ⟨x.src.toArray⟩, .string ⟨x.dst.toArray⟩, .slice x.tA x.tn x.tc, .bool x.allow, .int .u64 (x.old : Int), .int .u64 (x.ses : Int), .slice x.sA x.sn x.sc], .agg #[.int .i64 (cl2 : Int), .int .u32 (sq2 : Int), .int .i64 y.1.kind, .int .i64 y.1.node, .int .i64 y.1.port, .int .i64 y.1.status, .string ⟨y.1.id.toArray⟩, .string ⟨y.1.name.toArray⟩, .string ⟨y.1.svc.toArray⟩, .string ⟨y.1.note.toArray⟩, .string ⟨y.1.key.toArray⟩, .string ⟨y.1.val.toArray⟩, .string ⟨y.1.src.toArray⟩, .string ⟨y.1.dst.toArray⟩, .slice y.1.tA y.1.tn y.1.tc, .bool y.1.allow, .int .u64 (y.1.old : Int), .int .u64 (y.1.ses : Int), .slice y.1.sA y.1.sn y.1.sc]] W (YesB true W)) := Lib.hid (fun W hW => by
        have h := lsame_any cl sq x y.1 W (fun W' hW' => CS.out W' (hW.trans (hW'.mono hW.size)))
        rw [e2, ← ecl]
        exact h)
      have HE2 := Lib.hid e2
      have HECL := Lib.hid ecl
      have HBY : Hid (World.rangeAt (w3.alloc (.cells #[.int .i64 (cl2 : Int), .int .u32 (sq2 : Int), .int .i64 y.1.kind, .int .i64 y.1.node, .int .i64 y.1.port, .int .i64 y.1.status, .string ⟨y.1.id.toArray⟩, .string ⟨y.1.name.toArray⟩, .string ⟨y.1.svc.toArray⟩, .string ⟨y.1.note.toArray⟩, .string ⟨y.1.key.toArray⟩, .string ⟨y.1.val.toArray⟩, .string ⟨y.1.src.toArray⟩, .string ⟨y.1.dst.toArray⟩, .slice y.1.tA y.1.tn y.1.tc, .bool y.1.allow, .int .u64 (y.1.old : Int), .int .u64 (y.1.ses : Int), .slice y.1.sA y.1.sn y.1.sc] TOr)) w3.heap.size 0 [.int .i64 (cl2 : Int), .int .u32 (sq2 : Int), .int .i64 y.1.kind, .int .i64 y.1.node, .int .i64 y.1.port, .int .i64 y.1.status, .string ⟨y.1.id.toArray⟩, .string ⟨y.1.name.toArray⟩, .string ⟨y.1.svc.toArray⟩, .string ⟨y.1.note.toArray⟩, .string ⟨y.1.key.toArray⟩, .string ⟨y.1.val.toArray⟩, .string ⟨y.1.src.toArray⟩, .string ⟨y.1.dst.toArray⟩, .slice y.1.tA y.1.tn y.1.tc, .bool y.1.allow, .int .u64 (y.1.old : Int), .int .u64 (y.1.ses : Int), .slice y.1.sA y.1.sn y.1.sc]) := Lib.hid (or_box w3 cl2 sq2 y.1)
      have HO4 := Lib.hid (range_below HO3.out ((Below.refl _ w3).alloc (Nat.le_refl _) (.cells #[.int .i64 (cl2 : Int), .int .u32 (sq2 : Int), .int .i64 y.1.kind, .int .i64 y.1.node, .int .i64 y.1.port, .int .i64 y.1.status, .string ⟨y.1.id.toArray⟩, .string ⟨y.1.name.toArray⟩, .string ⟨y.1.svc.toArray⟩, .string ⟨y.1.note.toArray⟩, .string ⟨y.1.key.toArray⟩, .string ⟨y.1.val.toArray⟩, .string ⟨y.1.src.toArray⟩, .string ⟨y.1.dst.toArray⟩, .slice y.1.tA y.1.tn y.1.tc, .bool y.1.allow, .int .u64 (y.1.old : Int), .int .u64 (y.1.ses : Int), .slice y.1.sA y.1.sn y.1.sc] TOr)) HLT3.out)
      have HA := Lib.hid ((Below.refl _ w3).alloc (Nat.le_refl _) (.cells #[.int .i64 (cl2 : Int), .int .u32 (sq2 : Int), .int .i64 y.1.kind, .int .i64 y.1.node, .int .i64 y.1.port, .int .i64 y.1.status, .string ⟨y.1.id.toArray⟩, .string ⟨y.1.name.toArray⟩, .string ⟨y.1.svc.toArray⟩, .string ⟨y.1.note.toArray⟩, .string ⟨y.1.key.toArray⟩, .string ⟨y.1.val.toArray⟩, .string ⟨y.1.src.toArray⟩, .string ⟨y.1.dst.toArray⟩, .slice y.1.tA y.1.tn y.1.tc, .bool y.1.allow, .int .u64 (y.1.old : Int), .int .u64 (y.1.ses : Int), .slice y.1.sA y.1.sn y.1.sc] TOr))
      clear hb3 hc15 hs32 hcm hk0 hz0 e1 e2 e3 e4 e5 hxk t1 t2 t3 ecl HO2 HO3 HB2 HLT CG
      unfold orC cmC strV
      go_wp2_with (first | (refine wpList_store_row rfl TOr (.tmp 5) (.tmp 23) rfl w3.heap.size #[.int .i64 (cl2 : Int), .int .u32 (sq2 : Int), .int .i64 y.1.kind, .int .i64 y.1.node, .int .i64 y.1.port, .int .i64 y.1.status, .string ⟨y.1.id.toArray⟩, .string ⟨y.1.name.toArray⟩, .string ⟨y.1.svc.toArray⟩, .string ⟨y.1.note.toArray⟩, .string ⟨y.1.key.toArray⟩, .string ⟨y.1.val.toArray⟩, .string ⟨y.1.src.toArray⟩, .string ⟨y.1.dst.toArray⟩, .slice y.1.tA y.1.tn y.1.tc, .bool y.1.allow, .int .u64 (y.1.old : Int), .int .u64 (y.1.ses : Int), .slice y.1.sA y.1.sn y.1.sc] rfl rfl TOr #[.int .i64 0, .int .u32 0, .int .i64 0, .int .i64 0, .int .i64 0, .int .i64 0, .string ⟨#[]⟩, .string ⟨#[]⟩, .string ⟨#[]⟩, .string ⟨#[]⟩, .string ⟨#[]⟩, .string ⟨#[]⟩, .string ⟨#[]⟩, .string ⟨#[]⟩, .slice none 0 0, .bool false, .int .u64 0, .int .u64 0, .slice none 0 0] (heap_alloc_new w3 _) or_info rfl (by kernel_rfl) ?_; rw [World.setRow_alloc_new]) | (refine wpList_load_midg rfl TOr (.tmp 1) rfl w.heap.size 0 rfl [.int .i64 cl, .int .u32 (sq : Int), .int .i64 x.kind, .int .i64 x.node, .int .i64 x.port, .int .i64 x.status, .string ⟨x.id.toArray⟩, .string ⟨x.name.toArray⟩, .string ⟨x.svc.toArray⟩, .string ⟨x.note.toArray⟩, .string ⟨x.key.toArray⟩, .string ⟨x.val.toArray⟩, .string ⟨x.src.toArray⟩, .string ⟨x.dst.toArray⟩, .slice x.tA x.tn x.tc, .bool x.allow, .int .u64 (x.old : Int), .int .u64 (x.ses : Int), .slice x.sA x.sn x.sc] _ HO4.out Try.underlying31 rfl (by kernel_rfl) ?_) | (refine wpList_load_midg rfl TOr (.tmp 5) rfl w3.heap.size 0 rfl [.int .i64 (cl2 : Int), .int .u32 (sq2 : Int), .int .i64 y.1.kind, .int .i64 y.1.node, .int .i64 y.1.port, .int .i64 y.1.status, .string ⟨y.1.id.toArray⟩, .string ⟨y.1.name.toArray⟩, .string ⟨y.1.svc.toArray⟩, .string ⟨y.1.note.toArray⟩, .string ⟨y.1.key.toArray⟩, .string ⟨y.1.val.toArray⟩, .string ⟨y.1.src.toArray⟩, .string ⟨y.1.dst.toArray⟩, .slice y.1.tA y.1.tn y.1.tc, .bool y.1.allow, .int .u64 (y.1.old : Int), .int .u64 (y.1.ses : Int), .slice y.1.sA y.1.sn y.1.sc] _ HBY.out Try.underlying31 rfl (by kernel_rfl) ?_) | (go_at_call 15; refine (CL.out _ HA.out).mono ?_; rintro e w5 ⟨rfl, hb5⟩; have HB5 := Lib.hid (HB3.out.trans ((HA.out.mono HB3.out.size).trans (hb5.mono (Nat.le_trans HB3.out.size HA.out.size)))); clear hb5) | (go_at_call 10; refine (CW.out _).mono ?_; rintro e w6 ⟨rfl, hb6⟩; have HB6 := Lib.hid (HB5.out.trans (hb6.mono HB5.out.size)); clear hb6))
      go_ret
      exact ⟨rfl, HB6.out⟩
end Go.Proofs.Ytbhhalkpghcflaa
