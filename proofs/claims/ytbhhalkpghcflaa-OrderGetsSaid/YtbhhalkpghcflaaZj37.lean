/-
  Get, walked (layer 20).
-/
import Derived.Test.YtbhhalkpghcflaaZj35
import Derived.Test.YtbhhalkpghcflaaZj36
import Derived.Laws.CopyRow
namespace Go.Proofs.Ytbhhalkpghcflaa
open Go.RowKit
set_option linter.unusedSimpArgs false
set_option linter.unusedVariables false

theorem readC_any (S : Nat → Prop) (R : Nat) (s : St) (w : World) (hr : RdAt S w R s) (hSn : ∀ k, w.heap.size ≤ k → S k) : Calls Try.prog 26 #[.pointer (some ⟨R, 0, none⟩), .int .u64 65535] w (RdGen 65535 S R w s) :=
  read_gen 65535 (by decide) (by decide) S R s w hr hSn fun kn hk W s' hW hr' => (read_gen 32767 (by decide) (by decide) S R s' W hr' (fun k hk => hSn k (Nat.le_trans hW hk)) (fun kn hk => by rw [mask_in15] at hk; cases hk)).mono fun e w' h => rdSub_of h
theorem results_get {tmps : Array Value} {w : World} {p q : Nat} {cs : Array Value} {x : Value} (h2 : tmps.getD 2 undef = .pointer (some ⟨p, 0, none⟩)) (h3 : tmps.getD 3 undef = .pointer (some ⟨q, 0, none⟩)) (hp : w.heap[p]? = some (.cells cs TOr (0, 0))) (hs : cs.size = 19) (hq : w.heap[q]? = some (.cells #[x] TEr (0, 0))) (hx : x.oneCell' = true) :
    (results Try.f13 tmps).run Try.prog w = .ok (.tuple #[.agg cs, x]) w := by
  have h2' : tmps[2]?.getD undef = .pointer (some ⟨p, 0, none⟩) := by simpa using h2
  have h3' : tmps[3]?.getD undef = .pointer (some ⟨q, 0, none⟩) := by simpa using h3
  have c0 : w.cell? ⟨q, 0, none⟩ = some x := by rw [cell_of_row w q 0 _ TEr (0, 0) hq]; rfl
  have l1 := run_loadVar_row (P := Try.prog) w p TOr TOr cs (0, 0) _ hp Try.underlying31 rfl (by rw [or_info, hs])
  have l2 : (loadVar TEr ⟨q, 0, none⟩).run Try.prog w = .ok x w := by go_simp
  simp [results, Try.results13, h2', h3', asAddr, l1, l2]
theorem leave_pan {tmps : Array Value} {w : World} {p q : Nat} {cs : Array Value} {x : Value} {n : Int} {R : Ending → World → Prop} (h2 : tmps.getD 2 undef = .pointer (some ⟨p, 0, none⟩)) (h3 : tmps.getD 3 undef = .pointer (some ⟨q, 0, none⟩)) (hp : w.heap[p]? = some (.cells cs TOr (0, 0))) (hs : cs.size = 19) (hq : w.heap[q]? = some (.cells #[x] TEr (0, 0))) (hpq : p ≠ q)
    (hR : ∀ W, But (fun k => k = p ∨ k = q) w W → R (.returned (.tuple #[.agg orZ, .int .i64 n])) W) : Leaves Try.prog Try.f13 tmps R [{ target := .fn (.func 23) #[.pointer (some ⟨p, 0, none⟩), .pointer (some ⟨q, 0, none⟩)], args := #[] }] (.panicking [{ v := .iface TEr (.int .i64 n), recovered := false }]) w := by
  refine leaves_cons (f := 23) (args := #[.pointer (some ⟨p, 0, none⟩), .pointer (some ⟨q, 0, none⟩)]) (by simp) (by simp [go_sem]) ?_
  refine (got_pan p q n cs x w hp hs hq hpq).mono ?_
  rintro e u' w' ⟨rfl, rfl, rfl⟩
  refine ⟨_, results_get h2 h3 (p := p) (q := q) (cs := orZ) (x := .int .i64 n) ?_ rfl ?_ rfl, hR _ ((but_setRow w p orZ).mono (fun k hk => .inl hk) |>.trans (But.set _ (.inr rfl) _))⟩
  · rw [heap_setCell_other _ _ _ _ hpq]
    exact setRow_heap w p cs _ TOr (0, 0) hp
  · have hq2 : (w.setRow p orZ).heap[q]? = some (.cells #[x] TEr (0, 0)) := by rw [setRow_other _ _ _ _ (Ne.symm hpq)]; exact hq
    exact block_set hq2 0 (.int .i64 n)
theorem leave_ret {tmps : Array Value} {w : World} {p q : Nat} {cs : Array Value} {x : Value} {R : Ending → World → Prop} (h2 : tmps.getD 2 undef = .pointer (some ⟨p, 0, none⟩)) (h3 : tmps.getD 3 undef = .pointer (some ⟨q, 0, none⟩)) (hp : w.heap[p]? = some (.cells cs TOr (0, 0))) (hs : cs.size = 19) (hq : w.heap[q]? = some (.cells #[x] TEr (0, 0))) (hx : x.oneCell' = true)
    (hR : R (.returned (.tuple #[.agg cs, x])) w) : Leaves Try.prog Try.f13 tmps R [{ target := .fn (.func 23) #[.pointer (some ⟨p, 0, none⟩), .pointer (some ⟨q, 0, none⟩)], args := #[] }] .returning w := by
  refine leaves_cons (f := 23) (args := #[.pointer (some ⟨p, 0, none⟩), .pointer (some ⟨q, 0, none⟩)]) (by simp) (by simp [go_sem]) ?_
  refine (got_idle ⟨p, 0, none⟩ ⟨q, 0, none⟩ w).mono ?_
  rintro e u' w' ⟨rfl, rfl, rfl⟩
  exact ⟨_, results_get h2 h3 hp hs hq hx, hR⟩
/-- What Get hands back. -/
def GetP (b : List UInt8) (w : World) (e : Ending) (w' : World) : Prop := Below w.heap.size w w' ∧ ((errO b ≠ 0 ∧ e = .returned (.tuple #[.agg orZ, .int .i64 (errO b : Int)])) ∨ (errO b = 0 ∧ ∃ (cl sq : Nat) (y : Sub) (subs : List Sub), e = .returned (.tuple #[.agg (orC cl sq y.1).toArray, .int .i64 0]) ∧ cl ≤ 15 ∧ sq < 4294967296 ∧ Cm1 w' y.1 y.2 subs ∧ 0 ≤ y.1.kind ∧ (∀ z ∈ subs, z.1.sn = 0 ∧ 0 ≤ z.1.kind) ∧ (cl, sq, (y.1.kind.toNat, y.1.vals y.2), subs.map absS) = (orderC.rd ⟨b, 0⟩).1))
theorem there_row {w : World} {b o n : Nat} {cur : Array Value} {t : TypeId} (h : w.heap[b]? = some (.cells cur t (0, 0))) (hs : o + n ≤ cur.size) : w.there b o n := fun j hj => by
  refine ⟨?_, ?_⟩
  · rw [cell_of_row w b (o + j) cur t (0, 0) h, Array.getElem?_eq_getElem (by omega)]
    rfl
  · unfold World.frozen?
    rw [h]
    simp
set_option maxRecDepth 100000 in
set_option maxHeartbeats 4000000 in
theorem Get_any (v : Value) (b : List UInt8) (w : World) (h : Bs w v b) (hn : b.length ≤ 140737488355328) : Calls Try.prog 13 #[v] w (GetP b w) := by
  obtain ⟨A, c, rfl, hr, hnil, hnc, hcm⟩ := h.ex
  obtain ⟨w2, hw2⟩ : ∃ w2, (w.alloc (.cells #[.int .i64 0, .int .u32 0, .int .i64 0, .int .i64 0, .int .i64 0, .int .i64 0, .string ⟨#[]⟩, .string ⟨#[]⟩, .string ⟨#[]⟩, .string ⟨#[]⟩, .string ⟨#[]⟩, .string ⟨#[]⟩, .string ⟨#[]⟩, .string ⟨#[]⟩, .slice none 0 0, .bool false, .int .u64 0, .int .u64 0, .slice none 0 0] TOr)).alloc (.cells #[.int .i64 0] TEr) = w2 := ⟨_, rfl⟩
  have hb2 : Below w.heap.size w w2 := by rw [← hw2]; exact ((Below.refl _ w).alloc (Nat.le_refl _) _).alloc (by simp) _
  have hsz2 : w2.heap.size = w.heap.size + 2 := by rw [← hw2]; simp
  have hp2 : w2.heap[w.heap.size]? = some (.cells #[.int .i64 0, .int .u32 0, .int .i64 0, .int .i64 0, .int .i64 0, .int .i64 0, .string ⟨#[]⟩, .string ⟨#[]⟩, .string ⟨#[]⟩, .string ⟨#[]⟩, .string ⟨#[]⟩, .string ⟨#[]⟩, .string ⟨#[]⟩, .string ⟨#[]⟩, .slice none 0 0, .bool false, .int .u64 0, .int .u64 0, .slice none 0 0] TOr (0, 0)) := by rw [← hw2]; exact (Below.heap_alloc _ _ _ (by simp)).trans (heap_alloc_new w _)
  have hq2 : w2.heap[w.heap.size + 1]? = some (.cells #[.int .i64 0] TEr (0, 0)) := by
    rw [← hw2]
    have := heap_alloc_new (w.alloc (.cells #[.int .i64 0, .int .u32 0, .int .i64 0, .int .i64 0, .int .i64 0, .int .i64 0, .string ⟨#[]⟩, .string ⟨#[]⟩, .string ⟨#[]⟩, .string ⟨#[]⟩, .string ⟨#[]⟩, .string ⟨#[]⟩, .string ⟨#[]⟩, .string ⟨#[]⟩, .slice none 0 0, .bool false, .int .u64 0, .int .u64 0, .slice none 0 0] TOr)) (.cells #[.int .i64 0] TEr)
    simpa using this
  have CR := Lib.hid (read_any A b.length c b w2 (hr.below hb2) hnil hnc hn)
  obtain ⟨P, hP⟩ : ∃ P, w.heap.size = P := ⟨_, rfl⟩
  rw [hP] at hsz2 hp2 hq2
  have LOW2 : Hid (But (fun _ => False) w w2) := Lib.hid (But.of_below hb2)
  have HP2 := Lib.hid hp2
  have HQ2 := Lib.hid hq2
  have HW2 := Lib.hid hw2
  obtain ⟨cl, hcl⟩ : ∃ cl, (itNum 255).out ⟨b, 0⟩ = cl := ⟨_, rfl⟩
  obtain ⟨s1, hs1⟩ : ∃ s1, (itNum 255).next ⟨b, 0⟩ = s1 := ⟨_, rfl⟩
  obtain ⟨sq, hsq⟩ : ∃ sq, (itNum 4294967295).out s1 = sq := ⟨_, rfl⟩
  obtain ⟨s2, hs2⟩ : ∃ s2, (itNum 4294967295).next s1 = s2 := ⟨_, rfl⟩
  have hcl255 : cl ≤ 255 := by rw [← hcl]; exact num_out_le 255 _
  have hsqm : sq ≤ 4294967295 := by rw [← hsq]; exact num_out_le 4294967295 _
  have HRD : Hid (orderC.rd ⟨b, 0⟩ = ((cl, sq, (cmdC.rd s2).1), (cmdC.rd s2).2)) := Lib.hid (by rw [← hs2, ← hsq, ← hs1, ← hcl]; rfl)
  have HERR : Hid (errO b = if (cmdC.rd s2).2.e ≠ 0 then (cmdC.rd s2).2.e else if 0 < (cmdC.rd s2).2.b.length then 41 else if 15 < cl then 2 else 0) := Lib.hid (by unfold errO; rw [HRD.out])
  have CN1 := Lib.hid (fun S B W (hr : RdAt S W B ⟨b, 0⟩) => by have := rNum_any S B 255 ⟨b, 0⟩ W hr (by decide); rw [hcl, hs1] at this; unfold u64V at this; exact this)
  have CN2 := Lib.hid (fun S B W (hr : RdAt S W B s1) => by have := rNum_any S B 4294967295 s1 W hr (by decide); rw [hsq, hs2] at this; unfold u64V at this; exact this)
  have hmf : ∀ (fn : Fn) (first cap : Array Value) (w : World), (Instr.makeFunc fn first cap).run Try.prog w = .ok (.func fn first cap) w := fun _ _ _ _ => rfl
  have LO : Hid (∀ W, But (fun _ => False) w W → Below w.heap.size w W) := Lib.hid (fun W h => h.below (Nat.le_refl _) (fun _ _ h => h))
  have e1 : IntKind.i64.wrap (cl : Int) = (cl : Int) := IntWalk.i64_in _ (by omega)
  have e2 : IntKind.u32.wrap (sq : Int) = (sq : Int) := by unfold IntKind.wrap; simp [IntKind.signed, IntKind.bits]; omega
  clear h hr hnil hnc hcm hn hb2 hp2 hq2 hcl hs1 hsq hs2
  go_enter_defers Try.func13, Try.ntmps13
  go_wp2_with fail
  refine CR.out.mono ?_
  rintro e w3 ⟨B, rfl, hB, hr3, hb3⟩
  obtain ⟨S, hS⟩ : ∃ S : Nat → Prop, (fun k => (k = B ∨ k < w2.heap.size) ∨ w3.heap.size ≤ k) = S := ⟨_, rfl⟩
  have hr3' := hr3.widen
  rw [hS] at hr3'
  have HSN := Lib.hid (show ∀ k, w3.heap.size ≤ k → S k from fun k hk => by rw [← hS]; exact .inr hk)
  have HSP : Hid (S P ∧ S (P + 1) ∧ S B) := Lib.hid (by rw [← hS]; exact ⟨.inl (.inr (by omega)), .inl (.inr (by omega)), .inl (.inl rfl)⟩)
  have hBP : B ≠ P ∧ B ≠ P + 1 ∧ P < B := by omega
  have hsz3 := hb3.size
  have HS3 := Lib.hid (show P + 1 < w3.heap.size by omega)
  have HP3 := Lib.hid ((hb3.block P (by omega)).trans HP2.out)
  have HQ3 := Lib.hid ((hb3.block (P + 1) (by omega)).trans HQ2.out)
  have LOW3 := Lib.hid (LOW2.out.trans (But.of_below hb3))
  have HR3 := Lib.hid hr3'
  clear hr3 hr3' hb3 hS hB hsz2 HW2 hw2 HP2 HQ2 LOW2 CR hsz3
  go_wp2_with fail
  refine (CN1.out S B w3 HR3.out).mono ?_
  rintro e w4 ⟨rfl, hr4, hb4⟩
  have hp4 := (hb4.block P (by have := HS3.out; omega) (by omega)).trans HP3.out
  have HQ4 := Lib.hid ((hb4.block (P + 1) HS3.out (by omega)).trans HQ3.out)
  have LOW4 := Lib.hid (LOW3.out.then_ hb4 (fun i hi hlt => by omega))
  have HS4 := Lib.hid hb4.size
  have c0 : w4.cell? ⟨P, 0, none⟩ = some (.int .i64 0) := by rw [cell_of_row w4 P 0 _ TOr (0, 0) hp4]; rfl
  have f0 : w4.frozen? ⟨P, 0, none⟩ = false := by unfold World.frozen?; rw [hp4]; simp
  obtain ⟨w5, hw5⟩ : ∃ w5, w4.setCell ⟨P, 0, none⟩ (.int .i64 (cl : Int)) = w5 := ⟨_, rfl⟩
  have HP5 : Hid (w5.heap[P]? = some (.cells #[.int .i64 (cl : Int), .int .u32 0, .int .i64 0, .int .i64 0, .int .i64 0, .int .i64 0, .string ⟨#[]⟩, .string ⟨#[]⟩, .string ⟨#[]⟩, .string ⟨#[]⟩, .string ⟨#[]⟩, .string ⟨#[]⟩, .string ⟨#[]⟩, .string ⟨#[]⟩, .slice none 0 0, .bool false, .int .u64 0, .int .u64 0, .slice none 0 0] TOr (0, 0))) := Lib.hid (by rw [← hw5]; exact block_set hp4 0 _)
  have hb5 : But (fun k => k = P) w4 w5 := by rw [← hw5]; exact But.set (S := fun k => k = P) w4 (p := ⟨P, 0, none⟩) rfl _
  have HQ5 := Lib.hid ((hb5.block (P + 1) (block_lt HQ4.out) (by omega)).trans HQ4.out)
  have LOW5 := Lib.hid (LOW4.out.then_ hb5 (fun i hi hlt => by omega))
  have HS5 := Lib.hid (Nat.le_trans HS4.out hb5.size)
  have HR5 := Lib.hid (hr4.but hb5 (fun k hk => hk ▸ HSP.out.1) hBP.1)
  have HW5 := Lib.hid hw5
  clear hr4 hb4 hp4 hw5 hb5 HP3 HQ3 LOW3 HR3 CN1 HQ4 LOW4 HS4
  go_wp2_with fail
  rw [HW5.out]
  refine (CN2.out S B w5 HR5.out).mono ?_
  rintro e w6 ⟨rfl, hr6, hb6⟩
  clear c0 f0
  have hs5 := HS5.out
  have hs3 := HS3.out
  have hp6 := (hb6.block P (block_lt HP5.out) (by omega)).trans HP5.out
  have HQ6 := Lib.hid ((hb6.block (P + 1) (block_lt HQ5.out) (by omega)).trans HQ5.out)
  have LOW6 := Lib.hid (LOW5.out.then_ hb6 (fun i hi hlt => by omega))
  have c0 : w6.cell? ⟨P, 1, none⟩ = some (.int .u32 0) := by rw [cell_of_row w6 P 1 _ TOr (0, 0) hp6]; rfl
  have f0 : w6.frozen? ⟨P, 1, none⟩ = false := by unfold World.frozen?; rw [hp6]; simp
  obtain ⟨w7, hw7⟩ : ∃ w7, w6.setCell ⟨P, 1, none⟩ (.int .u32 (sq : Int)) = w7 := ⟨_, rfl⟩
  have HP7 : Hid (w7.heap[P]? = some (.cells #[.int .i64 (cl : Int), .int .u32 (sq : Int), .int .i64 0, .int .i64 0, .int .i64 0, .int .i64 0, .string ⟨#[]⟩, .string ⟨#[]⟩, .string ⟨#[]⟩, .string ⟨#[]⟩, .string ⟨#[]⟩, .string ⟨#[]⟩, .string ⟨#[]⟩, .string ⟨#[]⟩, .slice none 0 0, .bool false, .int .u64 0, .int .u64 0, .slice none 0 0] TOr (0, 0))) := Lib.hid (by rw [← hw7]; exact block_set hp6 1 _)
  have hb7 : But (fun k => k = P) w6 w7 := by rw [← hw7]; exact But.set (S := fun k => k = P) w6 (p := ⟨P, 1, none⟩) rfl _
  have HQ7 := Lib.hid ((hb7.block (P + 1) (block_lt HQ6.out) (by omega)).trans HQ6.out)
  have LOW7 := Lib.hid (LOW6.out.then_ hb7 (fun i hi hlt => by omega))
  have HS7 := Lib.hid (Nat.le_trans hs5 (Nat.le_trans hb6.size hb7.size))
  have hr7 := hr6.but hb7 (fun k hk => hk ▸ HSP.out.1) hBP.1
  have CRD := Lib.hid (readC_any S B s2 w7 hr7 (fun k hk => HSN.out k (Nat.le_trans HS7.out hk)))
  have HW7 := Lib.hid hw7
  clear hr6 hb6 hp6 hw7 hb7 HP5 HQ5 LOW5 HR5 CN2 HQ6 LOW6 HW5 HS5 hs5 hr7
  go_wp2_with fail
  rw [HW7.out]
  refine CRD.out.mono ?_
  rintro e w8 ⟨hb8, hq8⟩
  clear c0 f0 CRD
  have hp8 := (hb8.block P (block_lt HP7.out) (by omega)).trans HP7.out
  have HQ8 := Lib.hid ((hb8.block (P + 1) (block_lt HQ7.out) (by omega)).trans HQ7.out)
  have LOW8 := Lib.hid (LOW7.out.then_ hb8 (fun i hi hlt => by omega))
  have PAN : Hid (∀ (n : Nat) (cs : Array Value) (W : World) (tmps : Array Value), n ≠ 0 → errO b = n → But (fun _ => False) w W → W.heap[P]? = some (.cells cs TOr (0, 0)) → cs.size = 19 → W.heap[P + 1]? = some (.cells #[.int .i64 0] TEr (0, 0)) → tmps.getD 2 undef = .pointer (some ⟨P, 0, none⟩) → tmps.getD 3 undef = .pointer (some ⟨P + 1, 0, none⟩) → Leaves Try.prog Try.f13 tmps (GetP b w) [{ target := .fn (.func 23) #[.pointer (some ⟨P, 0, none⟩), .pointer (some ⟨P + 1, 0, none⟩)], args := #[] }] (.panicking [{ v := .iface TEr (.int .i64 (n : Int)), recovered := false }]) W) := Lib.hid (fun n cs W tmps hn he hl h1 h2 h3 h4 h5 => leave_pan h4 h5 h1 h2 h3 (by omega) (fun W' hb => ⟨LO.out W' (hl.then_ hb (fun i hi hlt => by omega)), .inl ⟨by rw [he]; exact hn, by rw [he]⟩⟩))
  rcases hq8 with ⟨n, h1, h2, rfl⟩ | ⟨y, subs, rfl, hr8, hg8⟩
  · rw [genC_all] at h2
    exact PAN.out n _ w8 _ h1 (by rw [HERR.out, if_pos (by rw [← h2]; exact h1), h2]) LOW8.out hp8 rfl HQ8.out rfl rfl
  · rw [genC_all] at hr8
    have hs7 := HS7.out
    obtain ⟨cur', k1, k2, k3⟩ := block_setCells (cmC y.1) 2 w8 _ hp8
    obtain rfl : cur' = #[.int .i64 (cl : Int), .int .u32 (sq : Int), .int .i64 y.1.kind, .int .i64 y.1.node, .int .i64 y.1.port, .int .i64 y.1.status, .string ⟨y.1.id.toArray⟩, .string ⟨y.1.name.toArray⟩, .string ⟨y.1.svc.toArray⟩, .string ⟨y.1.note.toArray⟩, .string ⟨y.1.key.toArray⟩, .string ⟨y.1.val.toArray⟩, .string ⟨y.1.src.toArray⟩, .string ⟨y.1.dst.toArray⟩, .slice y.1.tA y.1.tn y.1.tc, .bool y.1.allow, .int .u64 (y.1.old : Int), .int .u64 (y.1.ses : Int), .slice y.1.sA y.1.sn y.1.sc] := by
      apply Array.ext'
      rw [k3 (by rw [cmC_len]; exact Nat.le_refl _)]
      rfl
    have TH := Lib.hid (there_row (o := 2) (n := 17) hp8 (Nat.le_refl _))
    obtain ⟨w9, hw9⟩ : ∃ w9, w8.setCells P 2 (cmC y.1) = w9 := ⟨_, rfl⟩
    have hb9 : But (fun k => k = P) w8 w9 := by rw [← hw9]; exact But.setCells (S := fun k => k = P) rfl _ _ _
    rw [hw9] at k1
    have HP9 := Lib.hid k1
    have HQ9 := Lib.hid ((hb9.block (P + 1) (block_lt HQ8.out) (by omega)).trans HQ8.out)
    have LOW9 := Lib.hid (LOW8.out.then_ hb9 (fun i hi hlt => by omega))
    have hr9 := hr8.but hb9 (fun k hk => hk ▸ HSP.out.1) hBP.1
    have HCM : Hid (∀ W, But (fun k => k = P ∨ k = P + 1) w8 W → Cm1 W y.1 y.2 subs) := Lib.hid (fun W hW => ⟨(hg8.fr.but hW (fun k hk => by have := HS3.out; omega)).1, hg8.row.but hW (fun b off e hn hs => by have := hg8.own b off e hn; have := HS3.out; omega), fun z hz => ((hg8.each z hz).1.but hW (fun k hk => by have := HS3.out; omega)).1⟩)
    have HB9 := Lib.hid (hb9.mono (S' := fun k => k = P ∨ k = P + 1) (fun k hk => .inl hk))
    have HIR : Hid (World.rangeAt w9 P 0 [.int .i64 (cl : Int), .int .u32 (sq : Int), .int .i64 y.1.kind, .int .i64 y.1.node, .int .i64 y.1.port, .int .i64 y.1.status, .string ⟨y.1.id.toArray⟩, .string ⟨y.1.name.toArray⟩, .string ⟨y.1.svc.toArray⟩, .string ⟨y.1.note.toArray⟩, .string ⟨y.1.key.toArray⟩, .string ⟨y.1.val.toArray⟩, .string ⟨y.1.src.toArray⟩, .string ⟨y.1.dst.toArray⟩, .slice y.1.tA y.1.tn y.1.tc, .bool y.1.allow, .int .u64 (y.1.old : Int), .int .u64 (y.1.ses : Int), .slice y.1.sA y.1.sn y.1.sc]) := Lib.hid (range_row k1)
    have HG8 := Lib.hid hg8
    have CDN := Lib.hid (rDone_any S B _ w9 hr9)
    obtain ⟨s3, hs3'⟩ : ∃ s3, (cmdC.rd s2).2 = s3 := ⟨_, rfl⟩
    have HS3' := Lib.hid hs3'
    rw [hs3'] at CDN
    have HW9 := Lib.hid hw9
    clear hw9 hb9 k1 k2 k3 hr9 hg8 hr8 hb8 hp8 hs3' HQ8 LOW8
    unfold cmV strV
    go_wp2_with (refine wpList_store_mid rfl TCm (.tmp 18) (.tmp 17) rfl P 2 #[.int .i64 y.1.kind, .int .i64 y.1.node, .int .i64 y.1.port, .int .i64 y.1.status, .string ⟨y.1.id.toArray⟩, .string ⟨y.1.name.toArray⟩, .string ⟨y.1.svc.toArray⟩, .string ⟨y.1.note.toArray⟩, .string ⟨y.1.key.toArray⟩, .string ⟨y.1.val.toArray⟩, .string ⟨y.1.src.toArray⟩, .string ⟨y.1.dst.toArray⟩, .slice y.1.tA y.1.tn y.1.tc, .bool y.1.allow, .int .u64 (y.1.old : Int), .int .u64 (y.1.ses : Int), .slice y.1.sA y.1.sn y.1.sc] (by first | rfl | simp [Act.eval]) rfl TH.out cm_info (all_oneCell_toArray (cmC_one y.1)) ?_; show wpList _ _ _ _ _ (World.setCells w8 P 2 (cmC y.1)); rw [HW9.out])
    refine CDN.out.mono ?_
    rintro e w10 ⟨rfl, rfl⟩
    by_cases hd0 : doneS s3 = 0
    · have HD0 := Lib.hid hd0
      rw [hd0]
      clear hd0
      have c0 : w9.cell? ⟨P, 0, none⟩ = some (.int .i64 (cl : Int)) := by rw [cell_of_row w9 P 0 _ TOr (0, 0) HP9.out]; rfl
      by_cases h15 : 15 < cl
      · have u1 : (15 : Int) < (cl : Int) := by omega
        have HE : Hid (errO b = 2) := Lib.hid (by
          rw [HERR.out, HS3'.out]
          have h0 := HD0.out
          unfold doneS at h0
          split at h0
          · cases h0
          · next hc =>
            rw [if_neg (by simpa using h0), if_neg (fun h => hc ⟨h0, h⟩), if_pos h15])
        go_wp2_with (go_at_call 27; refine (need_ok _).mono ?_; rintro e w11 ⟨rfl, rfl⟩)
        exact PAN.out 2 _ w9 _ (by decide) HE.out LOW9.out HP9.out rfl HQ9.out rfl rfl
      · have u1 : ¬ (15 : Int) < (cl : Int) := by omega
        have HE : Hid (errO b = 0) := Lib.hid (by
          rw [HERR.out, HS3'.out]
          have h0 := HD0.out
          unfold doneS at h0
          split at h0
          · cases h0
          · next hc =>
            rw [if_neg (by simpa using h0), if_neg (fun h => hc ⟨h0, h⟩), if_neg h15])
        have c1 : w9.cell? ⟨P + 1, 0, none⟩ = some (.int .i64 0) := by rw [cell_of_row w9 (P + 1) 0 _ TEr (0, 0) HQ9.out]; rfl
        have f1 : w9.frozen? ⟨P + 1, 0, none⟩ = false := by unfold World.frozen?; rw [HQ9.out]; simp
        go_wp2_with (first | (go_at_call 27; refine (need_ok _).mono ?_; rintro e w11 ⟨rfl, rfl⟩) | (refine wpList_load_mid rfl TOr (.tmp 2) rfl P 0 rfl [.int .i64 (cl : Int), .int .u32 (sq : Int), .int .i64 y.1.kind, .int .i64 y.1.node, .int .i64 y.1.port, .int .i64 y.1.status, .string ⟨y.1.id.toArray⟩, .string ⟨y.1.name.toArray⟩, .string ⟨y.1.svc.toArray⟩, .string ⟨y.1.note.toArray⟩, .string ⟨y.1.key.toArray⟩, .string ⟨y.1.val.toArray⟩, .string ⟨y.1.src.toArray⟩, .string ⟨y.1.dst.toArray⟩, .slice y.1.tA y.1.tn y.1.tc, .bool y.1.allow, .int .u64 (y.1.old : Int), .int .u64 (y.1.ses : Int), .slice y.1.sA y.1.sn y.1.sc] _ HIR.out Try.underlying31 rfl (by kernel_rfl) ?_) | (refine wpList_store_row rfl TOr (.tmp 2) (.tmp 26) rfl P #[.int .i64 (cl : Int), .int .u32 (sq : Int), .int .i64 y.1.kind, .int .i64 y.1.node, .int .i64 y.1.port, .int .i64 y.1.status, .string ⟨y.1.id.toArray⟩, .string ⟨y.1.name.toArray⟩, .string ⟨y.1.svc.toArray⟩, .string ⟨y.1.note.toArray⟩, .string ⟨y.1.key.toArray⟩, .string ⟨y.1.val.toArray⟩, .string ⟨y.1.src.toArray⟩, .string ⟨y.1.dst.toArray⟩, .slice y.1.tA y.1.tn y.1.tc, .bool y.1.allow, .int .u64 (y.1.old : Int), .int .u64 (y.1.ses : Int), .slice y.1.sA y.1.sn y.1.sc] rfl rfl TOr #[.int .i64 (cl : Int), .int .u32 (sq : Int), .int .i64 y.1.kind, .int .i64 y.1.node, .int .i64 y.1.port, .int .i64 y.1.status, .string ⟨y.1.id.toArray⟩, .string ⟨y.1.name.toArray⟩, .string ⟨y.1.svc.toArray⟩, .string ⟨y.1.note.toArray⟩, .string ⟨y.1.key.toArray⟩, .string ⟨y.1.val.toArray⟩, .string ⟨y.1.src.toArray⟩, .string ⟨y.1.dst.toArray⟩, .slice y.1.tA y.1.tn y.1.tc, .bool y.1.allow, .int .u64 (y.1.old : Int), .int .u64 (y.1.ses : Int), .slice y.1.sA y.1.sn y.1.sc] HP9.out or_info rfl (by kernel_rfl) ?_; rw [setRow_self w9 P _ TOr (0, 0) HP9.out]))
        have hv := HG8.out.val (by
          have h0 := HD0.out
          unfold doneS at h0
          rw [genC_all, HS3'.out]
          split at h0
          · cases h0
          · exact h0)
        rw [genC_all] at hv
        have hb10 : But (fun k => k = P + 1) w9 (w9.setCell ⟨P + 1, 0, none⟩ (.int .i64 0)) := But.set (S := fun k => k = P + 1) w9 (p := ⟨P + 1, 0, none⟩) rfl _
        exact leave_ret (p := P) (q := P + 1) (cs := #[.int .i64 (cl : Int), .int .u32 (sq : Int), .int .i64 y.1.kind, .int .i64 y.1.node, .int .i64 y.1.port, .int .i64 y.1.status, .string ⟨y.1.id.toArray⟩, .string ⟨y.1.name.toArray⟩, .string ⟨y.1.svc.toArray⟩, .string ⟨y.1.note.toArray⟩, .string ⟨y.1.key.toArray⟩, .string ⟨y.1.val.toArray⟩, .string ⟨y.1.src.toArray⟩, .string ⟨y.1.dst.toArray⟩, .slice y.1.tA y.1.tn y.1.tc, .bool y.1.allow, .int .u64 (y.1.old : Int), .int .u64 (y.1.ses : Int), .slice y.1.sA y.1.sn y.1.sc]) (x := .int .i64 0) rfl rfl ((hb10.block P (block_lt HP9.out) (by omega)).trans HP9.out) rfl (block_set HQ9.out 0 _) rfl ⟨LO.out _ (LOW9.out.then_ hb10 (fun i hi hlt => by omega)), .inr ⟨HE.out, cl, sq, y, subs, rfl, by omega, by omega, HCM.out _ (HB9.out.trans (hb10.mono (fun k hk => .inr hk))), HG8.out.k0, fun z hz => (HG8.out.each z hz).2, by rw [HRD.out, ← hv]⟩⟩
    · have HE : Hid (errO b = doneS s3) := Lib.hid (by
        rw [HERR.out, HS3'.out]
        unfold doneS at hd0 ⊢
        by_cases h1 : s3.e = 0
        · by_cases h2 : 0 < s3.b.length
          · rw [if_neg (by simpa using h1), if_pos h2, if_pos ⟨h1, h2⟩]
          · exact absurd (by rw [if_neg (fun h => h2 h.2)]; exact h1) hd0
        · rw [if_pos h1, if_neg (fun h => h1 h.1)])
      go_wp2_with fail
      refine (need_bad _ hd0 _).mono ?_
      rintro e w11 ⟨rfl, rfl⟩
      exact PAN.out _ _ w9 _ hd0 HE.out LOW9.out HP9.out rfl HQ9.out rfl rfl
end Go.Proofs.Ytbhhalkpghcflaa
