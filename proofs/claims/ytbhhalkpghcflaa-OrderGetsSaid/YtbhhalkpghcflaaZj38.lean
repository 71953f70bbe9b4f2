/-
  What Put hands back, whatever it was given; and as text (layer 20).
-/
import Derived.Test.YtbhhalkpghcflaaZj20
import Derived.Test.YtbhhalkpghcflaaZj30
import Derived.Test.YtbhhalkpghcflaaZj33
import Derived.Test.YtbhhalkpghcflaaZj37
namespace Go.Proofs.Ytbhhalkpghcflaa
open Go.RowKit
set_option linter.unusedSimpArgs false
set_option linter.unusedVariables false

theorem bs_nil (w : World) : Bs w (.slice none 0 0) [] := ⟨none, 0, rfl, ⟨rfl, fun h => absurd h (by decide)⟩, fun _ => rfl, Nat.le_refl _, by decide⟩
theorem bs_conv {w : World} {v : Value} {ys : List UInt8} (h : Bs w v ys) : (convert 32 9 v).run Try.prog w = .ok (.string ⟨ys.toArray⟩) w := by
  obtain ⟨A, c, rfl, h, _⟩ := h.ex
  rcases Nat.eq_zero_or_pos ys.length with h0 | hp
  · obtain rfl : ys = [] := List.eq_nil_of_length_eq_zero h0
    rw [show ([] : List UInt8).length = 0 from rfl, run_convert_bytes_string w _ _ _ _ 0 c Try.underlying32 Try.underlying5 Try.underlying9]
    cases A <;> simp [Conv.bytesToString, loadCells]
    all_goals rfl
  · obtain ⟨b, off, rfl, _, hc⟩ := h.2 hp
    refine run_convert_bytes_back w _ _ _ ⟨b, off, none⟩ c ys Try.underlying32 Try.underlying5 Try.underlying9 fun j hj => ?_
    rw [plain_add, hc j (by simpa using hj)]
    first | done | simp [byteV]
/-- What Put hands back, with its word. -/
def PutU (w : World) (n : Int) (zs : List UInt8) (e : Ending) (w' : World) : Prop := ∃ v, e = .returned (.tuple #[v, .int .i64 n]) ∧ Bs w' v zs ∧ Below w.heap.size w w'
theorem PutP.uni {w w' : World} {ok : Bool} {ys : List UInt8} {e : Ending} (h : PutP w ok ys e w') : PutU w (cond ok 0 2) (cond ok ys []) e w' := by
  obtain ⟨hb, h1, h2⟩ := h
  cases ok with
  | false => exact ⟨_, h1 rfl, bs_nil w', hb⟩
  | true =>
    obtain ⟨v, h3, h4⟩ := h2 rfl
    exact ⟨v, h3, h4, hb⟩
end Go.Proofs.Ytbhhalkpghcflaa
/-
  The law's works (layer 20).
-/
namespace Go.Proofs.Ytbhhalkpghcflaa
open Go.RowKit
set_option linter.unusedSimpArgs false
set_option linter.unusedVariables false

theorem numB_byte {n : Nat} (h0 : 0 < n) (h : n < 256) : numB n = [1, UInt8.ofNat n] := by
  rw [numB, digs_pos (show n ≠ 0 by omega), show n / 256 = 0 by omega, digs_zero]
  simp
  rw [Nat.mod_eq_of_lt h]
def wkX : CmW := ⟨10, 0, 0, 0, [], [], [], [], [97], [49], [], [], none, 0, 0, false, 0, 0, none, 0, 0⟩
theorem wk_small : CmS wkX := by
  refine ⟨by decide, ?_, ?_, by decide, by decide, by decide, by decide⟩
  · intro z hz
    have : z = 0 := by simpa [CmW.nums, wkX] using hz
    subst this
    decide
  · intro s hs
    have : s = [] ∨ s = [97] ∨ s = [49] := by
      simp only [CmW.texts, wkX, List.mem_cons, List.not_mem_nil, or_false] at hs
      rcases hs with h | h | h | h | h | h | h | h <;> simp [h]
    rcases this with rfl | rfl | rfl <;> (unfold maxLen; simp)
theorem wk_cm (w : World) : Cm1 w wkX [] [] := by
  refine ⟨⟨wk_small, ⟨rfl, fun h => absurd h (by decide)⟩, fun s h => by cases h⟩, ?_, fun y h => by cases h⟩
  exact ⟨rfl, fun h => absurd h (by decide)⟩
theorem wk_bytes : ordB 1 5 wkX [] [] = [1, 1, 1, 5, 1, 10, 1, 1, 97, 1, 1, 49] := by
  have e1 : ordB 1 5 wkX [] [] = numB 1 ++ numB 5 ++ (numB 10 ++ [] ++ [] ++ [] ++ [] ++ [] ++ [] ++ [] ++ (numB 1 ++ [97]) ++ (numB 1 ++ [49]) ++ [] ++ [] ++ [] ++ [] ++ [] ++ [] ++ []) := rfl
  rw [e1, numB_byte (n := 1) (by decide) (by decide), numB_byte (n := 5) (by decide) (by decide), numB_byte (n := 10) (by decide) (by decide)]
  rfl
set_option maxRecDepth 100000 in
theorem works_any (w : World) : Calls Try.prog 10 #[] w (YesB true w) := by
  have C := Lib.hid (Put_any 1 5 wkX [] [] w (wk_cm w) (by decide) (by decide))
  rw [wk_bytes, show ordOk 1 wkX [] [] = true by decide] at C
  unfold orV cmC strV wkX at C
  go_enter Try.func10, Try.ntmps10
  go_wp2_with fail
  refine C.out.mono ?_
  rintro e w1 ⟨hb, _, h1⟩
  obtain ⟨v, rfl, hv⟩ := h1 rfl
  obtain ⟨A, c, rfl, hr, hn, hnc, hcm⟩ := hv.ex
  have hr : RB w1 A 12 [1, 1, 1, 5, 1, 10, 1, 1, 97, 1, 1, 49] := hr
  have k1 := own_conv hr c
  have HB := Lib.hid hb
  clear hb h1 hv hr hn hnc hcm C
  go_wp2
  go_ret
  exact ⟨rfl, HB.out⟩
end Go.Proofs.Ytbhhalkpghcflaa
/-
  The law OrderOnce, walked (layer 20).
-/
namespace Go.Proofs.Ytbhhalkpghcflaa
open Go.RowKit
set_option linter.unusedSimpArgs false
set_option linter.unusedVariables false

theorem cm1_zero (w : World) : Cm1 w zeroW [] [] := ⟨⟨⟨by decide, by decide, by decide, by decide, by decide, by decide, by decide⟩, ⟨rfl, fun h => absurd h (by decide)⟩, fun s hs => by cases hs⟩, ⟨rfl, fun h => absurd h (by decide)⟩, fun y hy => by cases hy⟩
theorem lsame_zero (w : World) : Calls Try.prog 15 #[.agg #[.int .i64 0, .int .u32 0, .int .i64 0, .int .i64 0, .int .i64 0, .int .i64 0, .string ⟨#[]⟩, .string ⟨#[]⟩, .string ⟨#[]⟩, .string ⟨#[]⟩, .string ⟨#[]⟩, .string ⟨#[]⟩, .string ⟨#[]⟩, .string ⟨#[]⟩, .slice none 0 0, .bool false, .int .u64 0, .int .u64 0, .slice none 0 0], .agg #[.int .i64 0, .int .u32 0, .int .i64 0, .int .i64 0, .int .i64 0, .int .i64 0, .string ⟨#[]⟩, .string ⟨#[]⟩, .string ⟨#[]⟩, .string ⟨#[]⟩, .string ⟨#[]⟩, .string ⟨#[]⟩, .string ⟨#[]⟩, .string ⟨#[]⟩, .slice none 0 0, .bool false, .int .u64 0, .int .u64 0, .slice none 0 0]] w (YesB true w) := by
  have h := lsame_any 0 0 zeroW zeroW w (fun W hW => rsame1 (cm1_zero W) (cm1_zero W) rfl rfl rfl (fun z hz => by cases hz) (fun z hz => by cases hz) (by decide) (by decide) (fun z hz => by cases hz))
  exact h
/-- What was read is put as just these bytes. -/
theorem once_plain {w : World} {y : Sub} {subs : List Sub} {cl sq : Nat} {b : List UInt8} (h : Cm1 w y.1 y.2 subs) (h0 : errO b = 0) (hk0 : 0 ≤ y.1.kind) (hz : ∀ z ∈ subs, z.1.sn = 0 ∧ 0 ≤ z.1.kind) (he : (cl, sq, (y.1.kind.toNat, y.1.vals y.2), subs.map absS) = (orderC.rd ⟨b, 0⟩).1) :
    ordOk (cl : Int) y.1 y.2 subs = true ∧ ordB (cl : Int) sq y.1 y.2 subs = b := by
  obtain ⟨h1, h2, h3⟩ := order_once h0
  rw [← he] at h1 h2 h3
  obtain ⟨h4, h5, h6⟩ := h2
  have hok : cmdOk y.1 y.2 subs = true := (cmd_ok h).2 ⟨hk0, fun z hz' => ⟨(hz z hz').2, (hz z hz').1⟩, h6⟩
  refine ⟨?_, (ord_lay cl sq h hok).trans h1⟩
  have h3' : cl ≤ 15 := h3
  unfold ordOk
  rw [hok, Bool.true_and, Bool.and_eq_true, decide_eq_true_eq, decide_eq_true_eq]
  omega
set_option maxRecDepth 100000 in
set_option maxHeartbeats 4000000 in
theorem once_law (v : Value) (b : List UInt8) (w : World) (hv : Bs w v b) (hn : b.length ≤ 140737488355328) : Calls Try.prog 7 #[v] w (YesB true w) := by
  have CG := Lib.hid (Get_any v b w hv hn)
  have HV := Lib.hid hv
  have CW := Lib.hid (fun W => works_any W)
  have CZ0 := Lib.hid (fun W => lsame_zero W)
  clear hv hn
  go_enter Try.func7, Try.ntmps7
  go_wp2_with fail
  refine CG.out.mono ?_
  rintro e w3 ⟨hb3, hq3⟩
  have HB3 := Lib.hid hb3
  rcases hq3 with ⟨h1, rfl⟩ | ⟨h0, cl2, sq2, y, su2, rfl, hc15, hs32, hcm, hk0, hz0, heq⟩
  · have u1 : (((errO b : Nat) : Int) != 0) = true := by rw [bne_iff_ne]; omega
    have HBY : Hid (World.rangeAt (w3.alloc (.cells #[.int .i64 0, .int .u32 0, .int .i64 0, .int .i64 0, .int .i64 0, .int .i64 0, .string ⟨#[]⟩, .string ⟨#[]⟩, .string ⟨#[]⟩, .string ⟨#[]⟩, .string ⟨#[]⟩, .string ⟨#[]⟩, .string ⟨#[]⟩, .string ⟨#[]⟩, .slice none 0 0, .bool false, .int .u64 0, .int .u64 0, .slice none 0 0] TOr)) w3.heap.size 0 [.int .i64 0, .int .u32 0, .int .i64 0, .int .i64 0, .int .i64 0, .int .i64 0, .string ⟨#[]⟩, .string ⟨#[]⟩, .string ⟨#[]⟩, .string ⟨#[]⟩, .string ⟨#[]⟩, .string ⟨#[]⟩, .string ⟨#[]⟩, .string ⟨#[]⟩, .slice none 0 0, .bool false, .int .u64 0, .int .u64 0, .slice none 0 0]) := Lib.hid (or_box w3 0 0 zeroW)
    have HA := Lib.hid ((Below.refl _ w3).alloc (Nat.le_refl _) (.cells #[.int .i64 0, .int .u32 0, .int .i64 0, .int .i64 0, .int .i64 0, .int .i64 0, .string ⟨#[]⟩, .string ⟨#[]⟩, .string ⟨#[]⟩, .string ⟨#[]⟩, .string ⟨#[]⟩, .string ⟨#[]⟩, .string ⟨#[]⟩, .string ⟨#[]⟩, .slice none 0 0, .bool false, .int .u64 0, .int .u64 0, .slice none 0 0] TOr))
    obtain ⟨n, hn⟩ : ∃ n : Int, ((errO b : Nat) : Int) = n := ⟨_, rfl⟩
    rw [hn] at u1
    rw [hn]
    clear hb3 h1 hn CG HV
    unfold orZ
    go_wp2_with (first | (refine wpList_store_row rfl TOr (.tmp 3) (.tmp 10) rfl w3.heap.size #[.int .i64 0, .int .u32 0, .int .i64 0, .int .i64 0, .int .i64 0, .int .i64 0, .string ⟨#[]⟩, .string ⟨#[]⟩, .string ⟨#[]⟩, .string ⟨#[]⟩, .string ⟨#[]⟩, .string ⟨#[]⟩, .string ⟨#[]⟩, .string ⟨#[]⟩, .slice none 0 0, .bool false, .int .u64 0, .int .u64 0, .slice none 0 0] rfl rfl TOr #[.int .i64 0, .int .u32 0, .int .i64 0, .int .i64 0, .int .i64 0, .int .i64 0, .string ⟨#[]⟩, .string ⟨#[]⟩, .string ⟨#[]⟩, .string ⟨#[]⟩, .string ⟨#[]⟩, .string ⟨#[]⟩, .string ⟨#[]⟩, .string ⟨#[]⟩, .slice none 0 0, .bool false, .int .u64 0, .int .u64 0, .slice none 0 0] (heap_alloc_new w3 _) or_info rfl (by kernel_rfl) ?_; rw [World.setRow_alloc_new]) | (refine wpList_load_mid rfl TOr (.tmp 3) rfl w3.heap.size 0 rfl [.int .i64 0, .int .u32 0, .int .i64 0, .int .i64 0, .int .i64 0, .int .i64 0, .string ⟨#[]⟩, .string ⟨#[]⟩, .string ⟨#[]⟩, .string ⟨#[]⟩, .string ⟨#[]⟩, .string ⟨#[]⟩, .string ⟨#[]⟩, .string ⟨#[]⟩, .slice none 0 0, .bool false, .int .u64 0, .int .u64 0, .slice none 0 0] _ HBY.out Try.underlying31 rfl (by kernel_rfl) ?_) | (go_at_call 15; refine (CZ0.out _).mono ?_; rintro e w5 ⟨rfl, hb5⟩; have HB5 := Lib.hid (HB3.out.trans ((HA.out.mono HB3.out.size).trans (hb5.mono (Nat.le_trans HB3.out.size HA.out.size)))); clear hb5) | (go_at_call 10; refine (CW.out _).mono ?_; rintro e w6 ⟨rfl, hb6⟩; have HB6 := Lib.hid (HB5.out.trans (hb6.mono HB5.out.size)); clear hb6))
    go_ret
    exact ⟨rfl, HB6.out⟩
  · obtain ⟨p1, p2⟩ := once_plain hcm h0 hk0 hz0 heq
    have CP : Hid (∀ W, Below w3.heap.size w3 W → Calls Try.prog 11 #[.agg #[.int .i64 (cl2 : Int), .int .u32 (sq2 : Int), .int .i64 y.1.kind, .int .i64 y.1.node, .int .i64 y.1.port, .int .i64 y.1.status, .string ⟨y.1.id.toArray⟩, .string ⟨y.1.name.toArray⟩, .string ⟨y.1.svc.toArray⟩, .string ⟨y.1.note.toArray⟩, .string ⟨y.1.key.toArray⟩, .string ⟨y.1.val.toArray⟩, .string ⟨y.1.src.toArray⟩, .string ⟨y.1.dst.toArray⟩, .slice y.1.tA y.1.tn y.1.tc, .bool y.1.allow, .int .u64 (y.1.old : Int), .int .u64 (y.1.ses : Int), .slice y.1.sA y.1.sn y.1.sc]] W (PutP W true b)) := Lib.hid (fun W hW => by
      have h := Put_any (cl2 : Int) sq2 y.1 y.2 su2 W (hcm.below hW) (by omega) hs32
      rw [p1, p2] at h
      exact h)
    have HBY : Hid (World.rangeAt (w3.alloc (.cells #[.int .i64 (cl2 : Int), .int .u32 (sq2 : Int), .int .i64 y.1.kind, .int .i64 y.1.node, .int .i64 y.1.port, .int .i64 y.1.status, .string ⟨y.1.id.toArray⟩, .string ⟨y.1.name.toArray⟩, .string ⟨y.1.svc.toArray⟩, .string ⟨y.1.note.toArray⟩, .string ⟨y.1.key.toArray⟩, .string ⟨y.1.val.toArray⟩, .string ⟨y.1.src.toArray⟩, .string ⟨y.1.dst.toArray⟩, .slice y.1.tA y.1.tn y.1.tc, .bool y.1.allow, .int .u64 (y.1.old : Int), .int .u64 (y.1.ses : Int), .slice y.1.sA y.1.sn y.1.sc] TOr)) w3.heap.size 0 [.int .i64 (cl2 : Int), .int .u32 (sq2 : Int), .int .i64 y.1.kind, .int .i64 y.1.node, .int .i64 y.1.port, .int .i64 y.1.status, .string ⟨y.1.id.toArray⟩, .string ⟨y.1.name.toArray⟩, .string ⟨y.1.svc.toArray⟩, .string ⟨y.1.note.toArray⟩, .string ⟨y.1.key.toArray⟩, .string ⟨y.1.val.toArray⟩, .string ⟨y.1.src.toArray⟩, .string ⟨y.1.dst.toArray⟩, .slice y.1.tA y.1.tn y.1.tc, .bool y.1.allow, .int .u64 (y.1.old : Int), .int .u64 (y.1.ses : Int), .slice y.1.sA y.1.sn y.1.sc]) := Lib.hid (or_box w3 cl2 sq2 y.1)
    have HA := Lib.hid ((Below.refl _ w3).alloc (Nat.le_refl _) (.cells #[.int .i64 (cl2 : Int), .int .u32 (sq2 : Int), .int .i64 y.1.kind, .int .i64 y.1.node, .int .i64 y.1.port, .int .i64 y.1.status, .string ⟨y.1.id.toArray⟩, .string ⟨y.1.name.toArray⟩, .string ⟨y.1.svc.toArray⟩, .string ⟨y.1.note.toArray⟩, .string ⟨y.1.key.toArray⟩, .string ⟨y.1.val.toArray⟩, .string ⟨y.1.src.toArray⟩, .string ⟨y.1.dst.toArray⟩, .slice y.1.tA y.1.tn y.1.tc, .bool y.1.allow, .int .u64 (y.1.old : Int), .int .u64 (y.1.ses : Int), .slice y.1.sA y.1.sn y.1.sc] TOr))
    clear hb3 h0 hc15 hs32 hcm hk0 hz0 heq p1 p2 CG CZ0
    unfold orC cmC strV
    go_wp2_with (first | (refine wpList_store_row rfl TOr (.tmp 3) (.tmp 10) rfl w3.heap.size #[.int .i64 (cl2 : Int), .int .u32 (sq2 : Int), .int .i64 y.1.kind, .int .i64 y.1.node, .int .i64 y.1.port, .int .i64 y.1.status, .string ⟨y.1.id.toArray⟩, .string ⟨y.1.name.toArray⟩, .string ⟨y.1.svc.toArray⟩, .string ⟨y.1.note.toArray⟩, .string ⟨y.1.key.toArray⟩, .string ⟨y.1.val.toArray⟩, .string ⟨y.1.src.toArray⟩, .string ⟨y.1.dst.toArray⟩, .slice y.1.tA y.1.tn y.1.tc, .bool y.1.allow, .int .u64 (y.1.old : Int), .int .u64 (y.1.ses : Int), .slice y.1.sA y.1.sn y.1.sc] rfl rfl TOr #[.int .i64 0, .int .u32 0, .int .i64 0, .int .i64 0, .int .i64 0, .int .i64 0, .string ⟨#[]⟩, .string ⟨#[]⟩, .string ⟨#[]⟩, .string ⟨#[]⟩, .string ⟨#[]⟩, .string ⟨#[]⟩, .string ⟨#[]⟩, .string ⟨#[]⟩, .slice none 0 0, .bool false, .int .u64 0, .int .u64 0, .slice none 0 0] (heap_alloc_new w3 _) or_info rfl (by kernel_rfl) ?_; rw [World.setRow_alloc_new]) | (refine wpList_load_mid rfl TOr (.tmp 3) rfl w3.heap.size 0 rfl [.int .i64 (cl2 : Int), .int .u32 (sq2 : Int), .int .i64 y.1.kind, .int .i64 y.1.node, .int .i64 y.1.port, .int .i64 y.1.status, .string ⟨y.1.id.toArray⟩, .string ⟨y.1.name.toArray⟩, .string ⟨y.1.svc.toArray⟩, .string ⟨y.1.note.toArray⟩, .string ⟨y.1.key.toArray⟩, .string ⟨y.1.val.toArray⟩, .string ⟨y.1.src.toArray⟩, .string ⟨y.1.dst.toArray⟩, .slice y.1.tA y.1.tn y.1.tc, .bool y.1.allow, .int .u64 (y.1.old : Int), .int .u64 (y.1.ses : Int), .slice y.1.sA y.1.sn y.1.sc] _ HBY.out Try.underlying31 rfl (by kernel_rfl) ?_))
    refine (CP.out _ HA.out).mono ?_
    rintro e w5 ⟨hb5, _, he⟩
    obtain ⟨v5, rfl, hv5⟩ := he rfl
    have HB5 := Lib.hid (HB3.out.trans ((HA.out.mono HB3.out.size).trans (hb5.mono (Nat.le_trans HB3.out.size HA.out.size))))
    have k1 := bs_conv (HV.out.below HB5.out)
    have k2 := bs_conv hv5
    clear hb5 he hv5 HBY HA CP HB3
    go_wp2_with (go_at_call 10; refine (CW.out _).mono ?_; rintro e w6 ⟨rfl, hb6⟩; have HB6 := Lib.hid (HB5.out.trans (hb6.mono HB5.out.size)); clear hb6)
    go_ret
    exact ⟨rfl, HB6.out⟩
end Go.Proofs.Ytbhhalkpghcflaa
