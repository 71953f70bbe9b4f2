/-
  A step of layer 19's laws, in memory; what it makes of a roster.
-/
import Derived.Test.YtilkbfmaofmjoaaGreatDoorZj45
namespace Go.Proofs.YtilkbfmaofmjoaaGreatDoor
open Go.RowKit
set_option linter.unusedSimpArgs false
set_option linter.unusedVariables false

structure RSt where
  kind : Int
  node : Int
  text : ByteArray
  s : Rw SvW
  c : Rw CkA
  ix : Nat
structure RSt.Ok (W : World) (x : RSt) : Prop where
  node : -9223372036854775808 ≤ x.node ∧ x.node ≤ 9223372036854775807
  text : x.text.size ≤ 140737488355328
  s : SvIn W x.s
  c : CkIn x.c
  ix : x.ix < 18446744073709551616
theorem RSt.Ok.below {W W' : World} {x : RSt} (h : x.Ok W) (hb : Below W.heap.size W W') : x.Ok W' := ⟨h.node, h.text, h.s.below hb, h.c, h.ix⟩
abbrev TRs : TypeId := 35
def stC (x : RSt) : List Value := [.int .i64 x.kind, .int .i64 x.node, .string x.text, .int .i64 x.s.val.a.node, .string x.s.val.a.id, .string x.s.val.a.name, .slice x.s.val.A x.s.val.n x.s.val.c, .int .i64 x.s.val.a.port, .int .u64 (x.s.made : Int), .int .u64 (x.s.ix : Int), .int .i64 x.c.val.node, .string x.c.val.id, .string x.c.val.svc, .string x.c.val.note, .int .i64 x.c.val.status, .int .u64 (x.c.made : Int), .int .u64 (x.c.ix : Int), .int .u64 (x.ix : Int)]
def stV (x : RSt) : Value := .agg #[.int .i64 x.kind, .int .i64 x.node, .string x.text, .int .i64 x.s.val.a.node, .string x.s.val.a.id, .string x.s.val.a.name, .slice x.s.val.A x.s.val.n x.s.val.c, .int .i64 x.s.val.a.port, .int .u64 (x.s.made : Int), .int .u64 (x.s.ix : Int), .int .i64 x.c.val.node, .string x.c.val.id, .string x.c.val.svc, .string x.c.val.note, .int .i64 x.c.val.status, .int .u64 (x.c.made : Int), .int .u64 (x.c.ix : Int), .int .u64 (x.ix : Int)]
theorem stC_len (x : RSt) : (stC x).length = 18 := rfl
theorem st_cells {w : World} {b o : Nat} {x : RSt} (h : ItAt stC w b o x) : w.cell? ⟨b, o, none⟩ = some (.int .i64 x.kind) ∧ w.cell? ⟨b, o + 1, none⟩ = some (.int .i64 x.node) ∧ w.cell? ⟨b, o + 2, none⟩ = some (.string x.text) ∧ w.cell? ⟨b, o + 3, none⟩ = some (.int .i64 x.s.val.a.node) ∧ w.cell? ⟨b, o + 4, none⟩ = some (.string x.s.val.a.id) ∧ w.cell? ⟨b, o + 5, none⟩ = some (.string x.s.val.a.name) ∧ w.cell? ⟨b, o + 6, none⟩ = some (.slice x.s.val.A x.s.val.n x.s.val.c) ∧ w.cell? ⟨b, o + 7, none⟩ = some (.int .i64 x.s.val.a.port) ∧ w.cell? ⟨b, o + 8, none⟩ = some (.int .u64 (x.s.made : Int)) ∧ w.cell? ⟨b, o + 9, none⟩ = some (.int .u64 (x.s.ix : Int)) ∧ w.cell? ⟨b, o + 10, none⟩ = some (.int .i64 x.c.val.node) ∧ w.cell? ⟨b, o + 11, none⟩ = some (.string x.c.val.id) ∧ w.cell? ⟨b, o + 12, none⟩ = some (.string x.c.val.svc) ∧ w.cell? ⟨b, o + 13, none⟩ = some (.string x.c.val.note) ∧ w.cell? ⟨b, o + 14, none⟩ = some (.int .i64 x.c.val.status) ∧ w.cell? ⟨b, o + 15, none⟩ = some (.int .u64 (x.c.made : Int)) ∧ w.cell? ⟨b, o + 16, none⟩ = some (.int .u64 (x.c.ix : Int)) ∧ w.cell? ⟨b, o + 17, none⟩ = some (.int .u64 (x.ix : Int)) :=
  ⟨h 0 _ rfl, h 1 _ rfl, h 2 _ rfl, h 3 _ rfl, h 4 _ rfl, h 5 _ rfl, h 6 _ rfl, h 7 _ rfl, h 8 _ rfl, h 9 _ rfl, h 10 _ rfl, h 11 _ rfl, h 12 _ rfl, h 13 _ rfl, h 14 _ rfl, h 15 _ rfl, h 16 _ rfl, h 17 _ rfl⟩
theorem st_blk {w : World} {b : Nat} {x : RSt} {t : TypeId} (h : w.heap[b]? = some (.cells #[.int .i64 x.kind, .int .i64 x.node, .string x.text, .int .i64 x.s.val.a.node, .string x.s.val.a.id, .string x.s.val.a.name, .slice x.s.val.A x.s.val.n x.s.val.c, .int .i64 x.s.val.a.port, .int .u64 (x.s.made : Int), .int .u64 (x.s.ix : Int), .int .i64 x.c.val.node, .string x.c.val.id, .string x.c.val.svc, .string x.c.val.note, .int .i64 x.c.val.status, .int .u64 (x.c.made : Int), .int .u64 (x.c.ix : Int), .int .u64 (x.ix : Int)] t (0, 0))) : w.cell? ⟨b, 0, none⟩ = some (.int .i64 x.kind) ∧ w.cell? ⟨b, 1, none⟩ = some (.int .i64 x.node) ∧ w.cell? ⟨b, 2, none⟩ = some (.string x.text) ∧ w.cell? ⟨b, 3, none⟩ = some (.int .i64 x.s.val.a.node) ∧ w.cell? ⟨b, 4, none⟩ = some (.string x.s.val.a.id) ∧ w.cell? ⟨b, 5, none⟩ = some (.string x.s.val.a.name) ∧ w.cell? ⟨b, 6, none⟩ = some (.slice x.s.val.A x.s.val.n x.s.val.c) ∧ w.cell? ⟨b, 7, none⟩ = some (.int .i64 x.s.val.a.port) ∧ w.cell? ⟨b, 8, none⟩ = some (.int .u64 (x.s.made : Int)) ∧ w.cell? ⟨b, 9, none⟩ = some (.int .u64 (x.s.ix : Int)) ∧ w.cell? ⟨b, 10, none⟩ = some (.int .i64 x.c.val.node) ∧ w.cell? ⟨b, 11, none⟩ = some (.string x.c.val.id) ∧ w.cell? ⟨b, 12, none⟩ = some (.string x.c.val.svc) ∧ w.cell? ⟨b, 13, none⟩ = some (.string x.c.val.note) ∧ w.cell? ⟨b, 14, none⟩ = some (.int .i64 x.c.val.status) ∧ w.cell? ⟨b, 15, none⟩ = some (.int .u64 (x.c.made : Int)) ∧ w.cell? ⟨b, 16, none⟩ = some (.int .u64 (x.c.ix : Int)) ∧ w.cell? ⟨b, 17, none⟩ = some (.int .u64 (x.ix : Int)) :=
  ⟨cellsN h 0 _ rfl, cellsN h 1 _ rfl, cellsN h 2 _ rfl, cellsN h 3 _ rfl, cellsN h 4 _ rfl, cellsN h 5 _ rfl, cellsN h 6 _ rfl, cellsN h 7 _ rfl, cellsN h 8 _ rfl, cellsN h 9 _ rfl, cellsN h 10 _ rfl, cellsN h 11 _ rfl, cellsN h 12 _ rfl, cellsN h 13 _ rfl, cellsN h 14 _ rfl, cellsN h 15 _ rfl, cellsN h 16 _ rfl, cellsN h 17 _ rfl⟩
/-- What a step makes of a roster. -/
def RSt.after (x : RSt) (d : Ro) : Nat × Ro :=
  if x.kind = 0 then d.node ⟨x.node, x.text⟩ x.ix else if x.kind = 1 then d.dropN x.node x.ix else if x.kind = 2 then d.service x.s.val.a x.ix else if x.kind = 3 then d.dropS x.node x.text x.ix
  else if x.kind = 4 then d.check x.c.val x.ix else if x.kind = 5 then d.dropC x.node x.text x.ix else (0, d)
theorem RSt.after_ok {m : Nat} {d : Ro} (x : RSt) (h : RoOk m d) (hi : x.ix < 18446744073709551616) : RoOk m (x.after d).2 := by
  unfold RSt.after
  split
  · exact h.node hi
  · split
    · exact h.dropN hi
    · split
      · exact h.service hi
      · split
        · exact h.dropS hi
        · split
          · exact h.check hi
          · split
            · exact h.dropC hi
            · exact h
end Go.Proofs.YtilkbfmaofmjoaaGreatDoor
/-
  New, Nodes, Services, Checks, Last, Copy, walked (layer 19).
-/
namespace Go.Proofs.YtilkbfmaofmjoaaGreatDoor
open Go.RowKit Go.Rel
set_option linter.unusedSimpArgs false
set_option linter.unusedVariables false

set_option maxHeartbeats 2000000 in
theorem rnew_any (m : Int) (w : World) (hm : -9223372036854775808 ≤ m ∧ m ≤ 9223372036854775807) (hp : PwIs w) : Calls Tryz.prog 9 #[.int .i64 m] w fun e w' => ∃ B B1 B2 B3, e = .returned (.pointer (some ⟨B, 0, none⟩)) ∧ RoAt (fun k => w.heap.size ≤ k ∨ k = gPw) w' B B1 B2 B3 (mostT m) (Ro.new (mostT m)) ∧ Below w.heap.size w w' := by
  have H1 := Lib.hid (Nt.new_any m w hm)
  have H2 := Lib.hid (fun W => Vt.new_any m W hm)
  have H3 := Lib.hid (fun W => Ct.new_any m W hm)
  have HP := Lib.hid hp
  clear hm hp
  go_enter Tryz.func9, Tryz.ntmps9
  go_wp2_with fail
  refine H1.out.mono ?_
  rintro e w1 ⟨B1, rfl, t1, b1⟩
  have HT1 := Lib.hid t1
  have HB1 := Lib.hid b1
  clear t1 b1 H1
  go_wp2_with fail
  refine (H2.out w1).mono ?_
  rintro e w2 ⟨B2, rfl, t2, b2⟩
  have HT2 := Lib.hid t2
  have HB2 := Lib.hid b2
  clear t2 b2 H2
  go_wp2_with fail
  refine (H3.out w2).mono ?_
  rintro e w3 ⟨B3, rfl, t3, b3⟩
  have HT3 := Lib.hid t3
  have HB3 := Lib.hid b3
  clear t3 b3 H3
  go_wp2
  go_ret
  have b4 := below1 w3 #[.pointer (some ⟨B1, 0, none⟩), .pointer (some ⟨B2, 0, none⟩), .pointer (some ⟨B3, 0, none⟩)] TRo
  have t1 := HT1.out
  have t2 := HT2.out
  have t3 := HT3.out
  have b1 := HB1.out
  have b2 := HB2.out
  have b3 := HB3.out
  have l1 := t1.lt
  have l2 := t2.lt
  have l3 := t3.lt
  have m1 : w.heap.size ≤ B1 := t1.mine
  have m2 : w1.heap.size ≤ B2 := t2.mine
  have m3 : w2.heap.size ≤ B3 := t3.mine
  have s1 := b1.size
  have s2 := b2.size
  have s3 := b3.size
  have hpl := HP.out.lt
  have hbb : Below w.heap.size w w3 := b1.trans ((b2.trans (b3.mono s2)).mono s1)
  have ba : Below w.heap.size w _ := hbb.trans (b4.mono (by omega))
  refine ⟨w3.heap.size, B1, B2, B3, rfl, ⟨RoOk.new m, ⟨mostT m, [], 0⟩, ⟨mostT m, [], 0⟩, ⟨mostT m, [], 0⟩, ⟨HP.out.below ba, .inr rfl, ⟨.inl (by omega), by omega⟩, heap_alloc_new w3 _, ?_, ?_, ?_, by simp⟩, rfl, rfl, rfl⟩, ba⟩
  · exact ((((t1.narrow (S' := fun k => w.heap.size ≤ k ∧ k < w1.heap.size) fun k hk z => ⟨z, hk⟩).below b2).below b3).below b4).narrow fun k _ z => ⟨.inl z.1, by omega, by omega, by omega, by omega⟩
  · exact (((t2.narrow (S' := fun k => w1.heap.size ≤ k ∧ k < w2.heap.size) fun k hk z => ⟨z, hk⟩).below b3).below b4).narrow fun k _ z => ⟨.inl (by omega), by omega, by omega, by omega, by omega⟩
  · exact ((t3.narrow (S' := fun k => w2.heap.size ≤ k ∧ k < w3.heap.size) fun k hk z => ⟨z, hk⟩).below b4).narrow fun k _ z => ⟨.inl (by omega), by omega, by omega, by omega, by omega⟩
theorem ro_fld (w : World) (p1 p2 p3 : Option Addr) : (Instr.field TRo (.agg #[.pointer p1, .pointer p2, .pointer p3]) 0).run Tryz.prog w = .ok (.pointer p1) w ∧ (Instr.field TRo (.agg #[.pointer p1, .pointer p2, .pointer p3]) 1).run Tryz.prog w = .ok (.pointer p2) w ∧ (Instr.field TRo (.agg #[.pointer p1, .pointer p2, .pointer p3]) 2).run Tryz.prog w = .ok (.pointer p3) w := ⟨by kernel_rfl, by kernel_rfl, by kernel_rfl⟩
theorem tg_n {m : Nat} {d : Ro} {T2 : Tb SvW} {S : Nat → Prop} {w : World} (hok : RoOk m d) (ht : ∀ r ∈ T2.l, TgAt S w r.val) (e2 : sA T2 = d.s) {r : Rw SvW} (hr : r ∈ T2.l) : r.val.n ≤ 4 := by
  have hm : rwMap (fun v => v.a) r ∈ d.s.l := by rw [← e2]; exact List.mem_map_of_mem hr
  have h1 := tags_len (hok.sr _ hm).2.1.tags
  have h2 := (ht r hr).tx.len
  have h3 : (rwMap (fun v : SvW => v.a) r).val.tags = r.val.a.tags := rfl
  rw [h3] at h1
  omega
set_option maxRecDepth 100000 in
theorem nodes_walk {w : World} {q p1 p2 p3 : Option Addr} {l : List (Rw NdW)} (hn : l.length ≤ 64) (hT : Calls Tryz.prog 43 #[.pointer q] w fun e w' => e = .returned (.agg #[.pointer p1, .pointer p2, .pointer p3]) ∧ Below w.heap.size w w') (hL : ∀ W, Below w.heap.size w W → Calls Tryz.prog 44 #[.pointer p1] W (Nt.New W l)) : Calls Tryz.prog 16 #[.pointer q] w (NewNd w (l.map (rwMap fun v => v.a))) := by
  have HT := Lib.hid hT
  have HL := Lib.hid hL
  have HN := Lib.hid hn
  clear hT hL hn
  go_enter Tryz.func16, Tryz.ntmps16
  go_wp2_with fail
  refine HT.out.mono ?_
  rintro e w1 ⟨rfl, hb⟩
  have HB1 := Lib.hid hb
  have hf := ro_fld w1 p1 p2 p3
  clear hb
  go_wp2_with fail
  clear hf
  refine (HL.out w1 HB1.out).mono ?_
  rintro e w2 ⟨A, c, rfl, hS, _, _, _, hb⟩
  have HS := Lib.hid hS
  have HB2 := Lib.hid (HB1.out.trans (hb.mono HB1.out.size))
  clear hS hb
  obtain ⟨n, hn⟩ : ∃ n, l.length = n := ⟨_, rfl⟩
  have HN' := HN.out
  rw [hn] at HS HN' ⊢
  have HL2 := Lib.hid hn
  clear hn
  go_wp2_with fail
  refine (ofNode_any w2).mono ?_
  rintro e w3 ⟨rfl, hb⟩
  have HB3 := Lib.hid (HB2.out.trans (hb.mono HB2.out.size))
  have HR := Lib.hid (rowsNode_any (c := c) w3 (HS.out.below hb) HN')
  clear hb
  go_wp2_with fail
  refine HR.out.mono ?_
  rintro e w4 ⟨A2, c2, rfl, k1, k2, k3, k4, k5⟩
  have HK := Lib.hid (⟨A2, c2, rfl, k1, k2, k3, fun b off e => Nat.le_trans HB3.out.size (k4 b off e), HB3.out.trans (k5.mono HB3.out.size)⟩ : NewNd w (l.map (rwMap fun v => v.a)) (.returned (.slice A2 (l.map (rwMap fun v => v.a)).length c2)) w4)
  clear k1 k2 k3 k4 k5
  go_wp2
  go_ret
  have := HK.out
  rw [show (Ending.returned (.slice A2 (l.map (rwMap fun v => v.a)).length c2)) = .returned (.slice A2 l.length c2) by rw [List.length_map]] at this
  exact this
theorem rnodes_any {S : Nat → Prop} {w : World} {B B1 B2 B3 m : Nat} {d : Ro} (h : RoAt S w B B1 B2 B3 m d) : Calls Tryz.prog 16 #[.pointer (some ⟨B, 0, none⟩)] w (NewNd w d.n.l) := by
  obtain ⟨hok, T1, T2, T3, h, e1, e2, e3⟩ := h
  have e : d.n.l = T1.l.map (rwMap fun v => v.a) := by rw [← e1]; rfl
  rw [e]
  exact nodes_walk (p1 := some ⟨B1, 0, none⟩) (p2 := some ⟨B2, 0, none⟩) (p3 := some ⟨B3, 0, none⟩) (Nat.le_trans h.t1.1.len h.t1.1.most.2) (tables_is h.ptr) fun W hW => Nt.list_any (h.t1.below hW)
theorem rnodes_no {w : World} {p : Option Addr} (h : NoRo w p) : Calls Tryz.prog 16 #[.pointer p] w (NewNd w []) :=
  nodes_walk (l := []) (p1 := none) (p2 := none) (p3 := none) (by simp) (tables_no h) fun W hW => Nt.list_no ⟨.inl rfl⟩
set_option maxRecDepth 100000 in
theorem services_walk {w : World} {q p1 p2 p3 : Option Addr} {l : List (Rw SvW)} (hn : l.length ≤ 64) (ht : ∀ r ∈ l, Tx w r.val.A r.val.n r.val.c r.val.a.tags ∧ r.val.n ≤ 4) (hT : Calls Tryz.prog 43 #[.pointer q] w fun e w' => e = .returned (.agg #[.pointer p1, .pointer p2, .pointer p3]) ∧ Below w.heap.size w w') (hL : ∀ W, Below w.heap.size w W → Calls Tryz.prog 47 #[.pointer p2] W (Vt.New W l)) : Calls Tryz.prog 17 #[.pointer q] w (NewSv w (l.map (rwMap fun v => v.a))) := by
  have HT := Lib.hid hT
  have HL := Lib.hid hL
  have HN := Lib.hid hn
  have HTx := Lib.hid ht
  clear ht
  clear hT hL hn
  go_enter Tryz.func17, Tryz.ntmps17
  go_wp2_with fail
  refine HT.out.mono ?_
  rintro e w1 ⟨rfl, hb⟩
  have HB1 := Lib.hid hb
  have hf := ro_fld w1 p1 p2 p3
  clear hb
  go_wp2_with fail
  clear hf
  refine (HL.out w1 HB1.out).mono ?_
  rintro e w2 ⟨A, c, rfl, hS, _, _, _, hb⟩
  have HS := Lib.hid hS
  have HB2 := Lib.hid (HB1.out.trans (hb.mono HB1.out.size))
  clear hS hb
  obtain ⟨n, hn⟩ : ∃ n, l.length = n := ⟨_, rfl⟩
  have HN' := HN.out
  rw [hn] at HS HN' ⊢
  have HL2 := Lib.hid hn
  clear hn
  go_wp2_with fail
  refine (ofService_any w2).mono ?_
  rintro e w3 ⟨rfl, hb⟩
  have HB3 := Lib.hid (HB2.out.trans (hb.mono HB2.out.size))
  have HR := Lib.hid (rowsService_any (c := c) w3 (HS.out.below hb) (fun r hr => ⟨(HTx.out r hr).1.below HB3.out, (HTx.out r hr).2⟩) HN')
  clear hb
  go_wp2_with fail
  refine HR.out.mono ?_
  rintro e w4 ⟨l', ⟨A2, c2, rfl, k1, k2, k3, k4, k5⟩, k6⟩
  have HK := Lib.hid (⟨l', ⟨A2, c2, rfl, k1, k2, k3, fun b off e => Nat.le_trans HB3.out.size (k4 b off e), HB3.out.trans (k5.mono HB3.out.size)⟩, k6⟩ : NewSv w (l.map (rwMap fun v => v.a)) (.returned (.slice A2 l'.length c2)) w4)
  clear k1 k2 k3 k4 k5 k6
  go_wp2
  go_ret
  exact HK.out
theorem rservices_any {S : Nat → Prop} {w : World} {B B1 B2 B3 m : Nat} {d : Ro} (h : RoAt S w B B1 B2 B3 m d) : Calls Tryz.prog 17 #[.pointer (some ⟨B, 0, none⟩)] w (NewSv w d.s.l) := by
  obtain ⟨hok, T1, T2, T3, h, e1, e2, e3⟩ := h
  have e : d.s.l = T2.l.map (rwMap fun v => v.a) := by rw [← e2]; rfl
  rw [e]
  exact services_walk (p1 := some ⟨B1, 0, none⟩) (p2 := some ⟨B2, 0, none⟩) (p3 := some ⟨B3, 0, none⟩) (Nat.le_trans h.t2.1.len h.t2.1.most.2) (fun r hr => ⟨(h.tg r hr).tx, tg_n hok h.tg e2 hr⟩) (tables_is h.ptr) fun W hW => Vt.list_any (h.t2.below hW)
theorem rservices_no {w : World} {p : Option Addr} (h : NoRo w p) : Calls Tryz.prog 17 #[.pointer p] w (NewSv w []) :=
  services_walk (l := []) (p1 := none) (p2 := none) (p3 := none) (by simp) (by simp) (tables_no h) fun W hW => Vt.list_no ⟨.inl rfl⟩
set_option maxRecDepth 100000 in
theorem checks_walk {w : World} {q p1 p2 p3 : Option Addr} {l : List (Rw CkW)} (hn : l.length ≤ 64) (hT : Calls Tryz.prog 43 #[.pointer q] w fun e w' => e = .returned (.agg #[.pointer p1, .pointer p2, .pointer p3]) ∧ Below w.heap.size w w') (hL : ∀ W, Below w.heap.size w W → Calls Tryz.prog 50 #[.pointer p3] W (Ct.New W l)) : Calls Tryz.prog 18 #[.pointer q] w (NewCk w (l.map (rwMap fun v => v.a))) := by
  have HT := Lib.hid hT
  have HL := Lib.hid hL
  have HN := Lib.hid hn
  clear hT hL hn
  go_enter Tryz.func18, Tryz.ntmps18
  go_wp2_with fail
  refine HT.out.mono ?_
  rintro e w1 ⟨rfl, hb⟩
  have HB1 := Lib.hid hb
  have hf := ro_fld w1 p1 p2 p3
  clear hb
  go_wp2_with fail
  clear hf
  refine (HL.out w1 HB1.out).mono ?_
  rintro e w2 ⟨A, c, rfl, hS, _, _, _, hb⟩
  have HS := Lib.hid hS
  have HB2 := Lib.hid (HB1.out.trans (hb.mono HB1.out.size))
  clear hS hb
  obtain ⟨n, hn⟩ : ∃ n, l.length = n := ⟨_, rfl⟩
  have HN' := HN.out
  rw [hn] at HS HN' ⊢
  have HL2 := Lib.hid hn
  clear hn
  go_wp2_with fail
  refine (ofCheck_any w2).mono ?_
  rintro e w3 ⟨rfl, hb⟩
  have HB3 := Lib.hid (HB2.out.trans (hb.mono HB2.out.size))
  have HR := Lib.hid (rowsCheck_any (c := c) w3 (HS.out.below hb) HN')
  clear hb
  go_wp2_with fail
  refine HR.out.mono ?_
  rintro e w4 ⟨A2, c2, rfl, k1, k2, k3, k4, k5⟩
  have HK := Lib.hid (⟨A2, c2, rfl, k1, k2, k3, fun b off e => Nat.le_trans HB3.out.size (k4 b off e), HB3.out.trans (k5.mono HB3.out.size)⟩ : NewCk w (l.map (rwMap fun v => v.a)) (.returned (.slice A2 (l.map (rwMap fun v => v.a)).length c2)) w4)
  clear k1 k2 k3 k4 k5
  go_wp2
  go_ret
  have := HK.out
  rw [show (Ending.returned (.slice A2 (l.map (rwMap fun v => v.a)).length c2)) = .returned (.slice A2 l.length c2) by rw [List.length_map]] at this
  exact this
theorem rchecks_any {S : Nat → Prop} {w : World} {B B1 B2 B3 m : Nat} {d : Ro} (h : RoAt S w B B1 B2 B3 m d) : Calls Tryz.prog 18 #[.pointer (some ⟨B, 0, none⟩)] w (NewCk w d.c.l) := by
  obtain ⟨hok, T1, T2, T3, h, e1, e2, e3⟩ := h
  have e : d.c.l = T3.l.map (rwMap fun v => v.a) := by rw [← e3]; rfl
  rw [e]
  exact checks_walk (p1 := some ⟨B1, 0, none⟩) (p2 := some ⟨B2, 0, none⟩) (p3 := some ⟨B3, 0, none⟩) (Nat.le_trans h.t3.1.len h.t3.1.most.2) (tables_is h.ptr) fun W hW => Ct.list_any (h.t3.below hW)
theorem rchecks_no {w : World} {p : Option Addr} (h : NoRo w p) : Calls Tryz.prog 18 #[.pointer p] w (NewCk w []) :=
  checks_walk (l := []) (p1 := none) (p2 := none) (p3 := none) (by simp) (tables_no h) fun W hW => Ct.list_no ⟨.inl rfl⟩
def rlaE (X1 : Nat) (X2 : Nat) (p1 : Option Addr) (p2 : Option Addr) (p3 : Option Addr) (a : Nat) (b : Nat) (c : Nat) : Nat → Value
  | 0 => .pointer (some ⟨X1, 0, none⟩)
  | 1 => .pointer p1
  | 2 => .int .u64 (a : Int)
  | 3 => .pointer (some ⟨X1, 1, none⟩)
  | 4 => .pointer p2
  | 5 => .int .u64 (b : Int)
  | 6 => .pointer (some ⟨X1, 2, none⟩)
  | 7 => .pointer p3
  | 8 => .int .u64 (c : Int)
  | 9 => .agg #[.int .u64 (a : Int), .int .u64 (b : Int), .int .u64 (c : Int)]
  | _ => undef
theorem p3_blk {w : World} {b : Nat} {c0 c1 c2 : Value} {t : TypeId} (h : w.heap[b]? = some (.cells #[c0, c1, c2] t (0, 0))) : w.cell? ⟨b, 0, none⟩ = some c0 ∧ w.cell? ⟨b, 1, none⟩ = some c1 ∧ w.cell? ⟨b, 2, none⟩ = some c2 := ⟨cellsN h 0 _ rfl, cellsN h 1 _ rfl, cellsN h 2 _ rfl⟩
set_option maxHeartbeats 4000000 in
set_option maxRecDepth 100000 in
theorem rlast_walk {w : World} {q p1 p2 p3 : Option Addr} {a b c : Nat} (hT : ∀ W, Below w.heap.size w W → Calls Tryz.prog 43 #[.pointer q] W fun e w' => e = .returned (.agg #[.pointer p1, .pointer p2, .pointer p3]) ∧ Below W.heap.size W w')
    (h1 : ∀ W, Below w.heap.size w W → Calls Tryz.prog 68 #[.pointer p1] W fun e w' => e = .returned (.int .u64 (a : Int)) ∧ W = w') (h2 : ∀ W, Below w.heap.size w W → Calls Tryz.prog 69 #[.pointer p2] W fun e w' => e = .returned (.int .u64 (b : Int)) ∧ W = w') (h3 : ∀ W, Below w.heap.size w W → Calls Tryz.prog 70 #[.pointer p3] W fun e w' => e = .returned (.int .u64 (c : Int)) ∧ W = w') :
    Calls Tryz.prog 27 #[.pointer q] w fun e w' => e = .returned (.agg #[.int .u64 (a : Int), .int .u64 (b : Int), .int .u64 (c : Int)]) ∧ Below w.heap.size w w' := by
  obtain ⟨X2, hX2⟩ : ∃ X2, w.heap.size = X2 := ⟨_, rfl⟩
  have b0 := below1 w #[.int .u64 0, .int .u64 0, .int .u64 0] 55
  have k0 := heap_alloc_new w (.cells #[.int .u64 0, .int .u64 0, .int .u64 0] 55)
  obtain ⟨w1, hw1⟩ : ∃ w1, w.alloc (.cells #[.int .u64 0, .int .u64 0, .int .u64 0] 55) = w1 := ⟨_, rfl⟩
  rw [hw1] at b0 k0
  rw [hX2] at k0
  have HT := Lib.hid (hT w1 b0)
  have HB0 := Lib.hid b0
  have HK0 := Lib.hid k0
  have HW1 := Lib.hid hw1
  have HX2 := Lib.hid hX2
  have G1 := Lib.hid h1
  have G2 := Lib.hid h2
  have G3 := Lib.hid h3
  clear hT h1 h2 h3 hX2 b0 k0 hw1
  go_enter Tryz.func27, Tryz.ntmps27
  go_wp2_with fail
  rw [HW1.out, HX2.out]
  refine HT.out.mono ?_
  rintro e w2 ⟨rfl, hb⟩
  obtain ⟨X1, hX1⟩ : ∃ X1, w2.heap.size = X1 := ⟨_, rfl⟩
  have b2 := below1 w2 #[.pointer p1, .pointer p2, .pointer p3] TRo
  have k1 := heap_alloc_new w2 (.cells #[.pointer p1, .pointer p2, .pointer p3] TRo)
  have k2 := (b2.block X2 (Nat.lt_of_lt_of_le (block_lt HK0.out) hb.size)).trans ((hb.block X2 (block_lt HK0.out)).trans HK0.out)
  have HB : Hid (Below w.heap.size w (w2.alloc (.cells #[.pointer p1, .pointer p2, .pointer p3] TRo))) := Lib.hid (HB0.out.trans ((hb.trans (b2.mono hb.size)).mono HB0.out.size))
  clear hb b2 HT
  go_wp2_with fail
  obtain ⟨W0, hW0⟩ : ∃ W0, w2.alloc (.cells #[.pointer p1, .pointer p2, .pointer p3] TRo) = W0 := ⟨_, rfl⟩
  rw [hW0] at HB k1 k2
  rw [hX1] at k1
  have HK1 := Lib.hid k1
  have HK2 := Lib.hid k2
  have HL1 := Lib.hid (block_lt k1)
  have HL2 := Lib.hid (block_lt k2)
  have HM2 : Hid (∀ k, k = X2 → k < W0.heap.size) := Lib.hid fun k e => by rw [e]; exact block_lt k2
  have H1 := Lib.hid (fun W (hW : Below W0.heap.size W0 W) => G1.out W (HB.out.trans (hW.mono HB.out.size)))
  have H2 := Lib.hid (fun W (hW : Below W0.heap.size W0 W) => G2.out W (HB.out.trans (hW.mono HB.out.size)))
  have H3 := Lib.hid (fun W (hW : Below W0.heap.size W0 W) => G3.out W (HB.out.trans (hW.mono HB.out.size)))
  rw [hW0]
  clear k1 k2 hW0 hX1 G1 G2 G3
  have hre : ∀ w : World, (But (OldB W0)) w w := (fun w => But.refl _ w)
  have hrd : ∀ (f : Nat → Bool) w i, i ≠ 10 → (TI 10 W0 (fun w => w.heap[X2]? = some (.cells #[.int .u64 (a : Int), .int .u64 (b : Int), .int .u64 (c : Int)] 55 (0, 0)) ∧ But (· = X2) W0 w)) f w → (TI 10 W0 (fun w => w.heap[X2]? = some (.cells #[.int .u64 (a : Int), .int .u64 (b : Int), .int .u64 (c : Int)] 55 (0, 0)) ∧ But (· = X2) W0 w)) (Go.Rel.upd f i) w := (fun _ _ _ hi h => h.read hi)
  refine Go.Rel.wp_tab (by kernel_rfl) (by kernel_rfl) (TI 10 W0 (fun w => w.heap[X2]? = some (.cells #[.int .u64 (a : Int), .int .u64 (b : Int), .int .u64 (c : Int)] 55 (0, 0)) ∧ But (· = X2) W0 w)) (But (OldB W0)) hre ((fun _ _ _ h k => h.trans k)) (OldB.drew) TI.start (rlaE X1 X2 p1 p2 p3 a b c) (fun _ _ _ => True) (fun i => ([] : List Nat).contains i) (fun i => ([1, 2, 4, 5, 7, 8, 10] : List Nat).contains i) (by kernel_rfl) (fun _ _ _ _ h _ => h) 10 rfl hrd ?_ (Go.Rel.AllOf.get ?_) ?_
  · repeat (refine .cons (by first | exact Go.Rel.pure_sp rfl | exact Go.Rel.pure_yes (by kernel_rfl) (fun _ => by kernel_rfl) | exact Go.Rel.pure_no (by kernel_rfl) rfl) ?_)
    exact .nil
  · refine ⟨?_, ?_, ?_, ?_, ?_, ?_, ?_, trivial⟩
    · exact SpecOk.ld hrd hre (q := .pointer (some ⟨X1, 0, none⟩)) (h := fun _ w' hI _ hdesc _ _ => by have cc := p3_blk (((hI.ahead (hdesc 60 10 (by kernel_rfl))).block X1 HL1.out).trans HK1.out); go_simp; rfl)
    · refine SpecOk.gen (fun e => [(7, .pointer p1)]) rfl rfl (fun _ => by kernel_rfl) fun f w' e hI hf hdesc hanc hle hX K hK => ?_
      go_simp
      have zL : f 10 = false := hdesc 60 10 (by kernel_rfl)
      refine (H1.out w' (hI.ahead zL)).mono ?_
      rintro e w2 ⟨rfl, rfl⟩
      exact hK _ _ (But.refl _ _) (hI.read (by decide)) rfl
    · exact SpecOk.ld hrd hre (q := .pointer (some ⟨X1, 1, none⟩)) (h := fun _ w' hI _ hdesc _ _ => by have cc := p3_blk (((hI.ahead (hdesc 60 10 (by kernel_rfl))).block X1 HL1.out).trans HK1.out); go_simp; rfl)
    · refine SpecOk.gen (fun e => [(10, .pointer p2)]) rfl rfl (fun _ => by kernel_rfl) fun f w' e hI hf hdesc hanc hle hX K hK => ?_
      go_simp
      have zL : f 10 = false := hdesc 60 10 (by kernel_rfl)
      refine (H2.out w' (hI.ahead zL)).mono ?_
      rintro e w2 ⟨rfl, rfl⟩
      exact hK _ _ (But.refl _ _) (hI.read (by decide)) rfl
    · exact SpecOk.ld hrd hre (q := .pointer (some ⟨X1, 2, none⟩)) (h := fun _ w' hI _ hdesc _ _ => by have cc := p3_blk (((hI.ahead (hdesc 60 10 (by kernel_rfl))).block X1 HL1.out).trans HK1.out); go_simp; rfl)
    · refine SpecOk.gen (fun e => [(13, .pointer p3)]) rfl rfl (fun _ => by kernel_rfl) fun f w' e hI hf hdesc hanc hle hX K hK => ?_
      go_simp
      have zL : f 10 = false := hdesc 60 10 (by kernel_rfl)
      refine (H3.out w' (hI.ahead zL)).mono ?_
      rintro e w2 ⟨rfl, rfl⟩
      exact hK _ _ (But.refl _ _) (hI.read (by decide)) rfl
    · refine SpecOk.gen (fun e => [(2, .pointer (some ⟨X2, 0, none⟩)), (15, .agg #[.int .u64 (a : Int), .int .u64 (b : Int), .int .u64 (c : Int)])]) rfl rfl (fun _ => by kernel_rfl) fun f w' e hI hf hdesc hanc hle hX K hK => ?_
      have k2 := ((hI.ahead hf).block X2 HL2.out).trans HK2.out
      have d := p3_blk k2
      have z0 := blk_froz k2 0
      have z1 := blk_froz k2 1
      have z2 := blk_froz k2 2
      have lx := block_lt k2
      go_simp
      exact hK undef _ (But.oldB (but_setL X2 [.int .u64 (a : Int), .int .u64 (b : Int), .int .u64 (c : Int)] 0 w') HM2.out) (TI.last ⟨setL_all k2 [.int .u64 (a : Int), .int .u64 (b : Int), .int .u64 (c : Int)] rfl, (But.of_below (hI.ahead hf)).trans (but_setL X2 [.int .u64 (a : Int), .int .u64 (b : Int), .int .u64 (c : Int)] 0 w')⟩) rfl
  · intro f w3 e hall hJ hle hv
    obtain ⟨hx, hbx⟩ := hJ.done_ (hall 10 (by decide))
    simp only [Go.Rel.finL, List.setIfInBounds_toArray, List.set_cons_succ, List.set_cons_zero]
    obtain ⟨q0, q1, q2⟩ := p3_blk hx
    clear hv hall hle hJ
    go_wp2
    refine bodyPost_ret (v := .agg #[.int .u64 (a : Int), .int .u64 (b : Int), .int .u64 (c : Int)]) (by simp [results, Tryz.results27, go_sem, q0, q1, q2]) rfl ⟨rfl, HB.out.trans (hbx.below (by have := HB.out.size; omega) fun k hk e => by have := HX2.out; omega)⟩
theorem rlast_any {S : Nat → Prop} {w : World} {B B1 B2 B3 m : Nat} {d : Ro} (h : RoAt S w B B1 B2 B3 m d) : Calls Tryz.prog 27 #[.pointer (some ⟨B, 0, none⟩)] w fun e w' => e = .returned (.agg #[.int .u64 (d.n.last : Int), .int .u64 (d.s.last : Int), .int .u64 (d.c.last : Int)]) ∧ Below w.heap.size w w' := by
  obtain ⟨hok, T1, T2, T3, h, e1, e2, e3⟩ := h
  rw [← e1, ← e2, ← e3]
  exact rlast_walk (fun W hW => tables_is (h.below hW).ptr) (fun W hW => Nt.last_any (h.below hW).t1) (fun W hW => Vt.last_any (h.below hW).t2) fun W hW => Ct.last_any (h.below hW).t3
theorem rlast_no {w : World} {p : Option Addr} (h : NoRo w p) : Calls Tryz.prog 27 #[.pointer p] w fun e w' => e = .returned (.agg #[.int .u64 0, .int .u64 0, .int .u64 0]) ∧ Below w.heap.size w w' :=
  rlast_walk (a := 0) (b := 0) (c := 0) (fun W hW => tables_no (h.below hW)) (fun W hW => Nt.last_no (p := none) ⟨.inl rfl⟩) (fun W hW => Vt.last_no (p := none) ⟨.inl rfl⟩) fun W hW => Ct.last_no (p := none) ⟨.inl rfl⟩
end Go.Proofs.YtilkbfmaofmjoaaGreatDoor
