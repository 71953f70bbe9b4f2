/-
  The document's Get, walked (layer 20).
-/
import Derived.Test.YtbhhalkpghcflaaZj45
import Derived.Test.YtbhhalkpghcflaaZj37
import Derived.Laws.ResultCell
namespace Go.Proofs.Ytbhhalkpghcflaa
open Go.RowKit
set_option linter.unusedSimpArgs false
set_option linter.unusedVariables false

theorem freadC_any (S : Nat → Prop) (R : Nat) (s : St) (w : World) (hr : RfAt S w R s) (hSn : ∀ k, w.heap.size ≤ k → S k) : Calls Try.prog 30 #[.pointer (some ⟨R, 0, none⟩), .bool false] w (FdP 65535 S R w s) :=
  fread_gen false 65535 rfl S R s w hr hSn fun _ W s' hW hr' => fread_gen true 32767 rfl S R s' W hr' (fun k hk => hSn k (Nat.le_trans hW hk)) (fun h => by cases h)
theorem results_rget {tmps : Array Value} {w : World} {p : Nat} {cs : Array Value} (h2 : tmps.getD 2 undef = .pointer (some ⟨p, 0, none⟩)) (hp : w.heap[p]? = some (.cells cs TOr (0, 0))) (hs : cs.size = 19) :
    (results Try.f14 tmps).run Try.prog w = .ok (.tuple #[.agg cs, tmps.getD 3 undef]) w := by
  have l1 := run_loadVar_row (P := Try.prog) w p TOr TOr cs (0, 0) _ hp Try.underlying31 rfl (by rw [or_info, hs])
  rw [results_cell_tmp rfl, h2]
  simp [asAddr, l1]
set_option maxRecDepth 100000 in
set_option maxHeartbeats 4000000 in
theorem rGet_any (v : Value) (b : List UInt8) (w : World) (h : Bs w v b) (hn : b.length ≤ 140737488355328) : Calls Try.prog 14 #[v] w (GetP b w) := by
  obtain ⟨A, c, rfl, hr, hnil, hnc, hcm⟩ := h.ex
  obtain ⟨w2, hw2⟩ : ∃ w2, ((w.alloc (.cells #[.int .i64 0, .int .u32 0, .int .i64 0, .int .i64 0, .int .i64 0, .int .i64 0, .string ⟨#[]⟩, .string ⟨#[]⟩, .string ⟨#[]⟩, .string ⟨#[]⟩, .string ⟨#[]⟩, .string ⟨#[]⟩, .string ⟨#[]⟩, .string ⟨#[]⟩, .slice none 0 0, .bool false, .int .u64 0, .int .u64 0, .slice none 0 0] TOr)).alloc (.cells #[.slice A b.length c, .int .i64 0] 64)).alloc (.cells #[.int .i64 0, .int .u32 0, .int .i64 0, .int .i64 0, .int .i64 0, .int .i64 0, .string ⟨#[]⟩, .string ⟨#[]⟩, .string ⟨#[]⟩, .string ⟨#[]⟩, .string ⟨#[]⟩, .string ⟨#[]⟩, .string ⟨#[]⟩, .string ⟨#[]⟩, .slice none 0 0, .bool false, .int .u64 0, .int .u64 0, .slice none 0 0] TOr) = w2 := ⟨_, rfl⟩
  have hb2 : Below w.heap.size w w2 := by rw [← hw2]; exact (((Below.refl _ w).alloc (Nat.le_refl _) _).alloc (by simp) _).alloc (by simp; omega) _
  have hsz2 : w2.heap.size = w.heap.size + 3 := by rw [← hw2]; simp
  have hp2 : w2.heap[w.heap.size]? = some (.cells #[.int .i64 0, .int .u32 0, .int .i64 0, .int .i64 0, .int .i64 0, .int .i64 0, .string ⟨#[]⟩, .string ⟨#[]⟩, .string ⟨#[]⟩, .string ⟨#[]⟩, .string ⟨#[]⟩, .string ⟨#[]⟩, .string ⟨#[]⟩, .string ⟨#[]⟩, .slice none 0 0, .bool false, .int .u64 0, .int .u64 0, .slice none 0 0] TOr (0, 0)) := by rw [← hw2]; exact (Below.heap_alloc _ _ _ (by simp; omega)).trans ((Below.heap_alloc _ _ _ (by simp)).trans (heap_alloc_new w _))
  have hrb : w2.heap[w.heap.size + 1]? = some (.cells #[.slice A b.length c, .int .i64 0] 64 (0, 0)) := by
    rw [← hw2]
    refine (Below.heap_alloc _ _ _ (by simp)).trans ?_
    have := heap_alloc_new (w.alloc (.cells #[.int .i64 0, .int .u32 0, .int .i64 0, .int .i64 0, .int .i64 0, .int .i64 0, .string ⟨#[]⟩, .string ⟨#[]⟩, .string ⟨#[]⟩, .string ⟨#[]⟩, .string ⟨#[]⟩, .string ⟨#[]⟩, .string ⟨#[]⟩, .string ⟨#[]⟩, .slice none 0 0, .bool false, .int .u64 0, .int .u64 0, .slice none 0 0] TOr)) (.cells #[.slice A b.length c, .int .i64 0] 64)
    simpa using this
  have hq2 : w2.heap[w.heap.size + 2]? = some (.cells #[.int .i64 0, .int .u32 0, .int .i64 0, .int .i64 0, .int .i64 0, .int .i64 0, .string ⟨#[]⟩, .string ⟨#[]⟩, .string ⟨#[]⟩, .string ⟨#[]⟩, .string ⟨#[]⟩, .string ⟨#[]⟩, .string ⟨#[]⟩, .string ⟨#[]⟩, .slice none 0 0, .bool false, .int .u64 0, .int .u64 0, .slice none 0 0] TOr (0, 0)) := by
    rw [← hw2]
    have := heap_alloc_new ((w.alloc (.cells #[.int .i64 0, .int .u32 0, .int .i64 0, .int .i64 0, .int .i64 0, .int .i64 0, .string ⟨#[]⟩, .string ⟨#[]⟩, .string ⟨#[]⟩, .string ⟨#[]⟩, .string ⟨#[]⟩, .string ⟨#[]⟩, .string ⟨#[]⟩, .string ⟨#[]⟩, .slice none 0 0, .bool false, .int .u64 0, .int .u64 0, .slice none 0 0] TOr)).alloc (.cells #[.slice A b.length c, .int .i64 0] 64)) (.cells #[.int .i64 0, .int .u32 0, .int .i64 0, .int .i64 0, .int .i64 0, .int .i64 0, .string ⟨#[]⟩, .string ⟨#[]⟩, .string ⟨#[]⟩, .string ⟨#[]⟩, .string ⟨#[]⟩, .string ⟨#[]⟩, .string ⟨#[]⟩, .string ⟨#[]⟩, .slice none 0 0, .bool false, .int .u64 0, .int .u64 0, .slice none 0 0] TOr)
    simpa using this
  obtain ⟨S, hS⟩ : ∃ S : Nat → Prop, (fun k => w.heap.size ≤ k) = S := ⟨_, rfl⟩
  have hr2 : RfAt S w2 (w.heap.size + 1) ⟨b, 0⟩ := by
    rw [← hS]
    refine ⟨by omega, A, b.length, c, hrb, ⟨hr.below hb2, fun b' off e hn' hs => ?_⟩, hnc, hnil, hn⟩
    obtain ⟨b3, off3, e3, hlt, _⟩ := hr.2 hn'
    rw [e] at e3
    cases e3
    omega
  obtain ⟨P, hP⟩ : ∃ P, w.heap.size = P := ⟨_, rfl⟩
  have HSN := Lib.hid (show ∀ k, P ≤ k → S k from fun k hk => by rw [← hS, hP]; exact hk)
  rw [hP] at hsz2 hp2 hq2 hr2
  have LOW2 : Hid (But (fun _ => False) w w2) := Lib.hid (But.of_below hb2)
  have HP2 := Lib.hid hp2
  have HQ2 := Lib.hid hq2
  have HR2 := Lib.hid hr2
  have HW2 := Lib.hid hw2
  have HS2 := Lib.hid (show P + 2 < w2.heap.size by omega)
  obtain ⟨cl, hcl⟩ : ∃ cl, (itNum 255).out ⟨b, 0⟩ = cl := ⟨_, rfl⟩
  obtain ⟨s1, hs1⟩ : ∃ s1, (itNum 255).next ⟨b, 0⟩ = s1 := ⟨_, rfl⟩
  obtain ⟨sq, hsq⟩ : ∃ sq, (itNum 4294967295).out s1 = sq := ⟨_, rfl⟩
  obtain ⟨s2, hs2⟩ : ∃ s2, (itNum 4294967295).next s1 = s2 := ⟨_, rfl⟩
  have hcl255 : cl ≤ 255 := by rw [← hcl]; exact num_out_le 255 _
  have hsqm : sq ≤ 4294967295 := by rw [← hsq]; exact num_out_le 4294967295 _
  have HRD : Hid (orderC.rd ⟨b, 0⟩ = ((cl, sq, (cmdC.rd s2).1), (cmdC.rd s2).2)) := Lib.hid (by rw [← hs2, ← hsq, ← hs1, ← hcl]; rfl)
  have HERR : Hid (errO b = if (cmdC.rd s2).2.e ≠ 0 then (cmdC.rd s2).2.e else if 0 < (cmdC.rd s2).2.b.length then 41 else if 15 < cl then 2 else 0) := Lib.hid (by unfold errO; rw [HRD.out])
  have CN1 := Lib.hid (fun W (hr : RfAt S W (P + 1) ⟨b, 0⟩) => by have := fNum_any S (P + 1) 255 ⟨b, 0⟩ W hr (by decide); rw [hcl, hs1] at this; unfold u64V at this; exact this)
  have CN2 := Lib.hid (fun W (hr : RfAt S W (P + 1) s1) => by have := fNum_any S (P + 1) 4294967295 s1 W hr (by decide); rw [hsq, hs2] at this; unfold u64V at this; exact this)
  have LO : Hid (∀ W, But (fun _ => False) w W → Below w.heap.size w W) := Lib.hid (fun W h => h.below (Nat.le_refl _) (fun _ _ h => h))
  have e1 : IntKind.i64.wrap (cl : Int) = (cl : Int) := IntWalk.i64_in _ (by omega)
  have e2 : IntKind.u32.wrap (sq : Int) = (sq : Int) := by unfold IntKind.wrap; simp [IntKind.signed, IntKind.bits]; omega
  clear h hr hnil hnc hcm hn hb2 hp2 hq2 hcl hs1 hsq hs2 hrb hr2 hS hw2 hsz2
  go_enter Try.func14, Try.ntmps14
  go_wp2_with fail
  rw [HW2.out]
  refine (CN1.out w2 HR2.out).mono ?_
  rintro e w4 ⟨rfl, hr4, hb4⟩
  have hs2 := HS2.out
  have hq4 := (hb4.block (P + 2) (by omega) (by omega)).trans HQ2.out
  have HP4 := Lib.hid ((hb4.block P (by omega) (by omega)).trans HP2.out)
  have LOW4 := Lib.hid (LOW2.out.then_ hb4 (fun i hi hlt => by omega))
  have c0 : w4.cell? ⟨P + 2, 0, none⟩ = some (.int .i64 0) := by rw [cell_of_row w4 (P + 2) 0 _ TOr (0, 0) hq4]; rfl
  have f0 : w4.frozen? ⟨P + 2, 0, none⟩ = false := by unfold World.frozen?; rw [hq4]; simp
  obtain ⟨w5, hw5⟩ : ∃ w5, w4.setCell ⟨P + 2, 0, none⟩ (.int .i64 (cl : Int)) = w5 := ⟨_, rfl⟩
  have HQ5 : Hid (w5.heap[P + 2]? = some (.cells #[.int .i64 (cl : Int), .int .u32 0, .int .i64 0, .int .i64 0, .int .i64 0, .int .i64 0, .string ⟨#[]⟩, .string ⟨#[]⟩, .string ⟨#[]⟩, .string ⟨#[]⟩, .string ⟨#[]⟩, .string ⟨#[]⟩, .string ⟨#[]⟩, .string ⟨#[]⟩, .slice none 0 0, .bool false, .int .u64 0, .int .u64 0, .slice none 0 0] TOr (0, 0))) := Lib.hid (by rw [← hw5]; exact block_set hq4 0 _)
  have hb5 : But (fun k => k = P + 2) w4 w5 := by rw [← hw5]; exact But.set (S := fun k => k = P + 2) w4 (p := ⟨P + 2, 0, none⟩) rfl _
  have HP5 := Lib.hid ((hb5.block P (block_lt HP4.out) (by omega)).trans HP4.out)
  have LOW5 := Lib.hid (LOW4.out.then_ hb5 (fun i hi hlt => by omega))
  have HR5 := Lib.hid (hr4.but hb5 (fun k hk => HSN.out k (by omega)) (by omega))
  have HW5 := Lib.hid hw5
  clear hr4 hb4 hq4 hw5 hb5 HP2 HQ2 LOW2 HR2 HW2 CN1 LOW4 HP4 hs2 HS2
  go_wp2_with fail
  rw [HW5.out]
  refine (CN2.out w5 HR5.out).mono ?_
  rintro e w6 ⟨rfl, hr6, hb6⟩
  clear c0 f0
  have hq6 := (hb6.block (P + 2) (block_lt HQ5.out) (by omega)).trans HQ5.out
  have HP6 := Lib.hid ((hb6.block P (block_lt HP5.out) (by omega)).trans HP5.out)
  have LOW6 := Lib.hid (LOW5.out.then_ hb6 (fun i hi hlt => by omega))
  have c0 : w6.cell? ⟨P + 2, 1, none⟩ = some (.int .u32 0) := by rw [cell_of_row w6 (P + 2) 1 _ TOr (0, 0) hq6]; rfl
  have f0 : w6.frozen? ⟨P + 2, 1, none⟩ = false := by unfold World.frozen?; rw [hq6]; simp
  obtain ⟨w7, hw7⟩ : ∃ w7, w6.setCell ⟨P + 2, 1, none⟩ (.int .u32 (sq : Int)) = w7 := ⟨_, rfl⟩
  have HQ7 : Hid (w7.heap[P + 2]? = some (.cells #[.int .i64 (cl : Int), .int .u32 (sq : Int), .int .i64 0, .int .i64 0, .int .i64 0, .int .i64 0, .string ⟨#[]⟩, .string ⟨#[]⟩, .string ⟨#[]⟩, .string ⟨#[]⟩, .string ⟨#[]⟩, .string ⟨#[]⟩, .string ⟨#[]⟩, .string ⟨#[]⟩, .slice none 0 0, .bool false, .int .u64 0, .int .u64 0, .slice none 0 0] TOr (0, 0))) := Lib.hid (by rw [← hw7]; exact block_set hq6 1 _)
  have hb7 : But (fun k => k = P + 2) w6 w7 := by rw [← hw7]; exact But.set (S := fun k => k = P + 2) w6 (p := ⟨P + 2, 1, none⟩) rfl _
  have HP7 := Lib.hid ((hb7.block P (block_lt HP6.out) (by omega)).trans HP6.out)
  have LOW7 := Lib.hid (LOW6.out.then_ hb7 (fun i hi hlt => by omega))
  have hr7 := hr6.but hb7 (fun k hk => HSN.out k (by omega)) (by omega)
  have hlt7 := block_lt HQ7.out
  have CRD := Lib.hid (freadC_any S (P + 1) s2 w7 hr7 (fun k hk => HSN.out k (by omega)))
  have HW7 := Lib.hid hw7
  clear hr6 hb6 hq6 hw7 hb7 HP5 HQ5 LOW5 HR5 CN2 LOW6 HP6 HW5 hr7
  go_wp2_with fail
  rw [HW7.out]
  refine CRD.out.mono ?_
  rintro e w8 ⟨hb8, y, subs, rfl, hr8, hg8⟩
  clear c0 f0 CRD
  have hq8 := (hb8.block (P + 2) hlt7 (by omega)).trans HQ7.out
  have HP8 := Lib.hid ((hb8.block P (block_lt HP7.out) (by omega)).trans HP7.out)
  have LOW8 := Lib.hid (LOW7.out.then_ hb8 (fun i hi hlt => by omega))
  rw [genC_all] at hr8
  obtain ⟨cur', k1, k2, k3⟩ := block_setCells (cmC y.1) 2 w8 _ hq8
  obtain rfl : cur' = #[.int .i64 (cl : Int), .int .u32 (sq : Int), .int .i64 y.1.kind, .int .i64 y.1.node, .int .i64 y.1.port, .int .i64 y.1.status, .string ⟨y.1.id.toArray⟩, .string ⟨y.1.name.toArray⟩, .string ⟨y.1.svc.toArray⟩, .string ⟨y.1.note.toArray⟩, .string ⟨y.1.key.toArray⟩, .string ⟨y.1.val.toArray⟩, .string ⟨y.1.src.toArray⟩, .string ⟨y.1.dst.toArray⟩, .slice y.1.tA y.1.tn y.1.tc, .bool y.1.allow, .int .u64 (y.1.old : Int), .int .u64 (y.1.ses : Int), .slice y.1.sA y.1.sn y.1.sc] := by
    apply Array.ext'
    rw [k3 (by rw [cmC_len]; exact Nat.le_refl _)]
    rfl
  have TH := Lib.hid (there_row (o := 2) (n := 17) hq8 (Nat.le_refl _))
  obtain ⟨w9, hw9⟩ : ∃ w9, w8.setCells (P + 2) 2 (cmC y.1) = w9 := ⟨_, rfl⟩
  have hb9 : But (fun k => k = P + 2) w8 w9 := by rw [← hw9]; exact But.setCells (S := fun k => k = P + 2) rfl _ _ _
  rw [hw9] at k1
  have HQ9 := Lib.hid k1
  have HP9 := Lib.hid ((hb9.block P (block_lt HP8.out) (by omega)).trans HP8.out)
  have LOW9 := Lib.hid (LOW8.out.then_ hb9 (fun i hi hlt => by omega))
  have hr9 := hr8.but hb9 (fun k hk => HSN.out k (by omega)) (by omega)
  have HCM : Hid (∀ W, But (fun k => k = P ∨ k = P + 2) w8 W → Cm1 W y.1 y.2 subs) := Lib.hid (fun W hW => ⟨(hg8.fr.but hW (fun k hk => by omega)).1, hg8.row.but hW (fun b off e hn hs => by have := hg8.own b off e hn; omega), fun z hz => ((hg8.each z hz).1.but hW (fun k hk => by omega)).1⟩)
  have HB9 := Lib.hid (hb9.mono (S' := fun k => k = P ∨ k = P + 2) (fun k hk => .inr hk))
  have HIR : Hid (World.rangeAt w9 (P + 2) 0 [.int .i64 (cl : Int), .int .u32 (sq : Int), .int .i64 y.1.kind, .int .i64 y.1.node, .int .i64 y.1.port, .int .i64 y.1.status, .string ⟨y.1.id.toArray⟩, .string ⟨y.1.name.toArray⟩, .string ⟨y.1.svc.toArray⟩, .string ⟨y.1.note.toArray⟩, .string ⟨y.1.key.toArray⟩, .string ⟨y.1.val.toArray⟩, .string ⟨y.1.src.toArray⟩, .string ⟨y.1.dst.toArray⟩, .slice y.1.tA y.1.tn y.1.tc, .bool y.1.allow, .int .u64 (y.1.old : Int), .int .u64 (y.1.ses : Int), .slice y.1.sA y.1.sn y.1.sc]) := Lib.hid (range_row k1)
  have HG8 := Lib.hid hg8
  have CDN := Lib.hid (fDone_any S (P + 1) _ w9 hr9)
  obtain ⟨s3, hs3'⟩ : ∃ s3, (cmdC.rd s2).2 = s3 := ⟨_, rfl⟩
  have HS3' := Lib.hid hs3'
  rw [hs3'] at CDN
  have HW9 := Lib.hid hw9
  have c0 : w9.cell? ⟨P + 2, 0, none⟩ = some (.int .i64 (cl : Int)) := by rw [cell_of_row w9 (P + 2) 0 _ TOr (0, 0) HQ9.out]; rfl
  clear hw9 hb9 k1 k2 k3 hr9 hg8 hr8 hb8 hq8 hs3' LOW8 HP8 LOW7 HP7 HQ7 HW7
  unfold cmV strV
  have BAD : Hid (∀ n : Nat, n ≠ 0 → errO b = n → GetP b w (.returned (.tuple #[.agg orZ, .int .i64 (n : Int)])) (w9.setRow P #[.int .i64 0, .int .u32 0, .int .i64 0, .int .i64 0, .int .i64 0, .int .i64 0, .string ⟨#[]⟩, .string ⟨#[]⟩, .string ⟨#[]⟩, .string ⟨#[]⟩, .string ⟨#[]⟩, .string ⟨#[]⟩, .string ⟨#[]⟩, .string ⟨#[]⟩, .slice none 0 0, .bool false, .int .u64 0, .int .u64 0, .slice none 0 0])) := Lib.hid (fun n h0 he => ⟨LO.out _ (LOW9.out.then_ (but_setRow w9 P _) (fun i hi hlt => by omega)), .inl ⟨by rw [he]; exact h0, by rw [he]⟩⟩)
  have HNEW := Lib.hid (setRow_heap w9 P _ #[.int .i64 0, .int .u32 0, .int .i64 0, .int .i64 0, .int .i64 0, .int .i64 0, .string ⟨#[]⟩, .string ⟨#[]⟩, .string ⟨#[]⟩, .string ⟨#[]⟩, .string ⟨#[]⟩, .string ⟨#[]⟩, .string ⟨#[]⟩, .string ⟨#[]⟩, .slice none 0 0, .bool false, .int .u64 0, .int .u64 0, .slice none 0 0] TOr (0, 0) HP9.out)
  by_cases hd0 : doneS s3 = 0
  · have HD0 := Lib.hid hd0
    have hd : s3.e = 0 ∧ ¬ 0 < s3.b.length := by
      unfold doneS at hd0
      split at hd0
      · cases hd0
      · next hc => exact ⟨hd0, fun h => hc ⟨hd0, h⟩⟩
    rw [hd0] at CDN
    clear hd0
    by_cases h15 : 15 < cl
    · have u1 : (15 : Int) < (cl : Int) := by omega
      have HE : Hid (errO b = 2) := Lib.hid (by rw [HERR.out, HS3'.out, if_neg (by simpa using hd.1), if_neg hd.2, if_pos h15])
      clear hd h15
      go_wp2_with (first | (refine wpList_store_mid rfl TCm (.tmp 20) (.tmp 19) rfl (P + 2) 2 #[.int .i64 y.1.kind, .int .i64 y.1.node, .int .i64 y.1.port, .int .i64 y.1.status, .string ⟨y.1.id.toArray⟩, .string ⟨y.1.name.toArray⟩, .string ⟨y.1.svc.toArray⟩, .string ⟨y.1.note.toArray⟩, .string ⟨y.1.key.toArray⟩, .string ⟨y.1.val.toArray⟩, .string ⟨y.1.src.toArray⟩, .string ⟨y.1.dst.toArray⟩, .slice y.1.tA y.1.tn y.1.tc, .bool y.1.allow, .int .u64 (y.1.old : Int), .int .u64 (y.1.ses : Int), .slice y.1.sA y.1.sn y.1.sc] (by first | rfl | simp [Act.eval]) rfl TH.out cm_info (all_oneCell_toArray (cmC_one y.1)) ?_; show wpList _ _ _ _ _ (World.setCells w8 (P + 2) 2 (cmC y.1)); rw [HW9.out]) | (go_at_call 31; refine CDN.out.mono ?_; rintro e w10 ⟨rfl, rfl⟩) | (refine wpList_store_row rfl TOr (.tmp 2) (.tmp 32) rfl P #[.int .i64 0, .int .u32 0, .int .i64 0, .int .i64 0, .int .i64 0, .int .i64 0, .string ⟨#[]⟩, .string ⟨#[]⟩, .string ⟨#[]⟩, .string ⟨#[]⟩, .string ⟨#[]⟩, .string ⟨#[]⟩, .string ⟨#[]⟩, .string ⟨#[]⟩, .slice none 0 0, .bool false, .int .u64 0, .int .u64 0, .slice none 0 0] rfl rfl TOr #[.int .i64 0, .int .u32 0, .int .i64 0, .int .i64 0, .int .i64 0, .int .i64 0, .string ⟨#[]⟩, .string ⟨#[]⟩, .string ⟨#[]⟩, .string ⟨#[]⟩, .string ⟨#[]⟩, .string ⟨#[]⟩, .string ⟨#[]⟩, .string ⟨#[]⟩, .slice none 0 0, .bool false, .int .u64 0, .int .u64 0, .slice none 0 0] HP9.out or_info rfl (by kernel_rfl) ?_))
      exact bodyPost_ret (v := .tuple #[.agg orZ, .int .i64 ((2 : Nat) : Int)]) (results_rget rfl HNEW.out rfl) rfl (BAD.out 2 (by decide) HE.out)
    · have u1 : ¬ (15 : Int) < (cl : Int) := by omega
      have HE : Hid (errO b = 0) := Lib.hid (by rw [HERR.out, HS3'.out, if_neg (by simpa using hd.1), if_neg hd.2, if_neg h15])
      have HD := Lib.hid hd
      clear hd
      have HNEW4 := Lib.hid (setRow_heap w9 P _ #[.int .i64 (cl : Int), .int .u32 (sq : Int), .int .i64 y.1.kind, .int .i64 y.1.node, .int .i64 y.1.port, .int .i64 y.1.status, .string ⟨y.1.id.toArray⟩, .string ⟨y.1.name.toArray⟩, .string ⟨y.1.svc.toArray⟩, .string ⟨y.1.note.toArray⟩, .string ⟨y.1.key.toArray⟩, .string ⟨y.1.val.toArray⟩, .string ⟨y.1.src.toArray⟩, .string ⟨y.1.dst.toArray⟩, .slice y.1.tA y.1.tn y.1.tc, .bool y.1.allow, .int .u64 (y.1.old : Int), .int .u64 (y.1.ses : Int), .slice y.1.sA y.1.sn y.1.sc] TOr (0, 0) HP9.out)
      have GOOD : Hid (GetP b w (.returned (.tuple #[.agg #[.int .i64 (cl : Int), .int .u32 (sq : Int), .int .i64 y.1.kind, .int .i64 y.1.node, .int .i64 y.1.port, .int .i64 y.1.status, .string ⟨y.1.id.toArray⟩, .string ⟨y.1.name.toArray⟩, .string ⟨y.1.svc.toArray⟩, .string ⟨y.1.note.toArray⟩, .string ⟨y.1.key.toArray⟩, .string ⟨y.1.val.toArray⟩, .string ⟨y.1.src.toArray⟩, .string ⟨y.1.dst.toArray⟩, .slice y.1.tA y.1.tn y.1.tc, .bool y.1.allow, .int .u64 (y.1.old : Int), .int .u64 (y.1.ses : Int), .slice y.1.sA y.1.sn y.1.sc], .int .i64 0])) (w9.setRow P #[.int .i64 (cl : Int), .int .u32 (sq : Int), .int .i64 y.1.kind, .int .i64 y.1.node, .int .i64 y.1.port, .int .i64 y.1.status, .string ⟨y.1.id.toArray⟩, .string ⟨y.1.name.toArray⟩, .string ⟨y.1.svc.toArray⟩, .string ⟨y.1.note.toArray⟩, .string ⟨y.1.key.toArray⟩, .string ⟨y.1.val.toArray⟩, .string ⟨y.1.src.toArray⟩, .string ⟨y.1.dst.toArray⟩, .slice y.1.tA y.1.tn y.1.tc, .bool y.1.allow, .int .u64 (y.1.old : Int), .int .u64 (y.1.ses : Int), .slice y.1.sA y.1.sn y.1.sc])) := Lib.hid (by
        have hv := HG8.out.val (by rw [genC_all, HS3'.out]; exact HD.out.1)
        rw [genC_all] at hv
        have hb10 := but_setRow w9 P #[.int .i64 (cl : Int), .int .u32 (sq : Int), .int .i64 y.1.kind, .int .i64 y.1.node, .int .i64 y.1.port, .int .i64 y.1.status, .string ⟨y.1.id.toArray⟩, .string ⟨y.1.name.toArray⟩, .string ⟨y.1.svc.toArray⟩, .string ⟨y.1.note.toArray⟩, .string ⟨y.1.key.toArray⟩, .string ⟨y.1.val.toArray⟩, .string ⟨y.1.src.toArray⟩, .string ⟨y.1.dst.toArray⟩, .slice y.1.tA y.1.tn y.1.tc, .bool y.1.allow, .int .u64 (y.1.old : Int), .int .u64 (y.1.ses : Int), .slice y.1.sA y.1.sn y.1.sc]
        exact ⟨LO.out _ (LOW9.out.then_ hb10 (fun i hi hlt => by omega)), .inr ⟨HE.out, cl, sq, y, subs, rfl, by omega, by omega, HCM.out _ (HB9.out.trans (hb10.mono (fun k hk => .inl hk))), HG8.out.k0, fun z hz => (HG8.out.each z hz).2, by rw [HRD.out, ← hv]⟩⟩)
      clear h15 BAD
      go_wp2_with (first | (refine wpList_store_mid rfl TCm (.tmp 20) (.tmp 19) rfl (P + 2) 2 #[.int .i64 y.1.kind, .int .i64 y.1.node, .int .i64 y.1.port, .int .i64 y.1.status, .string ⟨y.1.id.toArray⟩, .string ⟨y.1.name.toArray⟩, .string ⟨y.1.svc.toArray⟩, .string ⟨y.1.note.toArray⟩, .string ⟨y.1.key.toArray⟩, .string ⟨y.1.val.toArray⟩, .string ⟨y.1.src.toArray⟩, .string ⟨y.1.dst.toArray⟩, .slice y.1.tA y.1.tn y.1.tc, .bool y.1.allow, .int .u64 (y.1.old : Int), .int .u64 (y.1.ses : Int), .slice y.1.sA y.1.sn y.1.sc] (by first | rfl | simp [Act.eval]) rfl TH.out cm_info (all_oneCell_toArray (cmC_one y.1)) ?_; show wpList _ _ _ _ _ (World.setCells w8 (P + 2) 2 (cmC y.1)); rw [HW9.out]) | (go_at_call 31; refine CDN.out.mono ?_; rintro e w10 ⟨rfl, rfl⟩) | (refine wpList_load_mid rfl TOr (.tmp 5) rfl (P + 2) 0 rfl [.int .i64 (cl : Int), .int .u32 (sq : Int), .int .i64 y.1.kind, .int .i64 y.1.node, .int .i64 y.1.port, .int .i64 y.1.status, .string ⟨y.1.id.toArray⟩, .string ⟨y.1.name.toArray⟩, .string ⟨y.1.svc.toArray⟩, .string ⟨y.1.note.toArray⟩, .string ⟨y.1.key.toArray⟩, .string ⟨y.1.val.toArray⟩, .string ⟨y.1.src.toArray⟩, .string ⟨y.1.dst.toArray⟩, .slice y.1.tA y.1.tn y.1.tc, .bool y.1.allow, .int .u64 (y.1.old : Int), .int .u64 (y.1.ses : Int), .slice y.1.sA y.1.sn y.1.sc] _ HIR.out Try.underlying31 rfl (by kernel_rfl) ?_) | (refine wpList_store_row rfl TOr (.tmp 2) (.tmp 34) rfl P #[.int .i64 (cl : Int), .int .u32 (sq : Int), .int .i64 y.1.kind, .int .i64 y.1.node, .int .i64 y.1.port, .int .i64 y.1.status, .string ⟨y.1.id.toArray⟩, .string ⟨y.1.name.toArray⟩, .string ⟨y.1.svc.toArray⟩, .string ⟨y.1.note.toArray⟩, .string ⟨y.1.key.toArray⟩, .string ⟨y.1.val.toArray⟩, .string ⟨y.1.src.toArray⟩, .string ⟨y.1.dst.toArray⟩, .slice y.1.tA y.1.tn y.1.tc, .bool y.1.allow, .int .u64 (y.1.old : Int), .int .u64 (y.1.ses : Int), .slice y.1.sA y.1.sn y.1.sc] rfl rfl TOr #[.int .i64 0, .int .u32 0, .int .i64 0, .int .i64 0, .int .i64 0, .int .i64 0, .string ⟨#[]⟩, .string ⟨#[]⟩, .string ⟨#[]⟩, .string ⟨#[]⟩, .string ⟨#[]⟩, .string ⟨#[]⟩, .string ⟨#[]⟩, .string ⟨#[]⟩, .slice none 0 0, .bool false, .int .u64 0, .int .u64 0, .slice none 0 0] HP9.out or_info rfl (by kernel_rfl) ?_))
      exact bodyPost_ret (v := .tuple #[.agg #[.int .i64 (cl : Int), .int .u32 (sq : Int), .int .i64 y.1.kind, .int .i64 y.1.node, .int .i64 y.1.port, .int .i64 y.1.status, .string ⟨y.1.id.toArray⟩, .string ⟨y.1.name.toArray⟩, .string ⟨y.1.svc.toArray⟩, .string ⟨y.1.note.toArray⟩, .string ⟨y.1.key.toArray⟩, .string ⟨y.1.val.toArray⟩, .string ⟨y.1.src.toArray⟩, .string ⟨y.1.dst.toArray⟩, .slice y.1.tA y.1.tn y.1.tc, .bool y.1.allow, .int .u64 (y.1.old : Int), .int .u64 (y.1.ses : Int), .slice y.1.sA y.1.sn y.1.sc], .int .i64 0]) (results_rget rfl HNEW4.out rfl) rfl GOOD.out
  · have HE : Hid (errO b = doneS s3) := Lib.hid (by
      rw [HERR.out, HS3'.out]
      unfold doneS at hd0 ⊢
      by_cases h1 : s3.e = 0
      · by_cases h2 : 0 < s3.b.length
        · rw [if_neg (by simpa using h1), if_pos h2, if_pos ⟨h1, h2⟩]
        · exact absurd (by rw [if_neg (fun h => h2 h.2)]; exact h1) hd0
      · rw [if_pos h1, if_neg (fun h => h1 h.1)])
    have HBAD := Lib.hid (BAD.out _ hd0 HE.out)
    obtain ⟨n, hn⟩ : ∃ n : Int, ((doneS s3 : Nat) : Int) = n := ⟨_, rfl⟩
    have t1 : (n == 0) = false := by rw [beq_eq_false_iff_ne]; omega
    have t2 : (n != 0) = true := by rw [bne_iff_ne]; omega
    rw [hn] at CDN HBAD
    clear hd0 hn BAD HE
    go_wp2_with (first | (refine wpList_store_mid rfl TCm (.tmp 20) (.tmp 19) rfl (P + 2) 2 #[.int .i64 y.1.kind, .int .i64 y.1.node, .int .i64 y.1.port, .int .i64 y.1.status, .string ⟨y.1.id.toArray⟩, .string ⟨y.1.name.toArray⟩, .string ⟨y.1.svc.toArray⟩, .string ⟨y.1.note.toArray⟩, .string ⟨y.1.key.toArray⟩, .string ⟨y.1.val.toArray⟩, .string ⟨y.1.src.toArray⟩, .string ⟨y.1.dst.toArray⟩, .slice y.1.tA y.1.tn y.1.tc, .bool y.1.allow, .int .u64 (y.1.old : Int), .int .u64 (y.1.ses : Int), .slice y.1.sA y.1.sn y.1.sc] (by first | rfl | simp [Act.eval]) rfl TH.out cm_info (all_oneCell_toArray (cmC_one y.1)) ?_; show wpList _ _ _ _ _ (World.setCells w8 (P + 2) 2 (cmC y.1)); rw [HW9.out]) | (go_at_call 31; refine CDN.out.mono ?_; rintro e w10 ⟨rfl, rfl⟩) | (refine wpList_store_row rfl TOr (.tmp 2) (.tmp 32) rfl P #[.int .i64 0, .int .u32 0, .int .i64 0, .int .i64 0, .int .i64 0, .int .i64 0, .string ⟨#[]⟩, .string ⟨#[]⟩, .string ⟨#[]⟩, .string ⟨#[]⟩, .string ⟨#[]⟩, .string ⟨#[]⟩, .string ⟨#[]⟩, .string ⟨#[]⟩, .slice none 0 0, .bool false, .int .u64 0, .int .u64 0, .slice none 0 0] rfl rfl TOr #[.int .i64 0, .int .u32 0, .int .i64 0, .int .i64 0, .int .i64 0, .int .i64 0, .string ⟨#[]⟩, .string ⟨#[]⟩, .string ⟨#[]⟩, .string ⟨#[]⟩, .string ⟨#[]⟩, .string ⟨#[]⟩, .string ⟨#[]⟩, .string ⟨#[]⟩, .slice none 0 0, .bool false, .int .u64 0, .int .u64 0, .slice none 0 0] HP9.out or_info rfl (by kernel_rfl) ?_))
    exact bodyPost_ret (v := .tuple #[.agg orZ, .int .i64 n]) (results_rget rfl HNEW.out rfl) rfl HBAD.out
end Go.Proofs.Ytbhhalkpghcflaa
