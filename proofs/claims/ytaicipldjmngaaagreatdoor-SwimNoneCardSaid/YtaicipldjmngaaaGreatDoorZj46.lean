import Derived.Test.YtaicipldjmngaaaGreatDoorZj34
import Derived.Test.YtaicipldjmngaaaGreatDoorZj42
import Derived.Test.YtaicipldjmngaaaGreatDoorZj43
import Derived.Test.YtaicipldjmngaaaGreatDoorZj44
import Derived.Test.YtaicipldjmngaaaGreatDoorZj45
import Derived.Test.YtaicipldjmngaaaGreatDoorZj27
import Derived.Test.YtaicipldjmngaaaGreatDoorZj20
import Derived.Test.YtaicipldjmngaaaGreatDoorZj26
import Derived.Test.YtaicipldjmngaaaGreatDoorZj5
import Derived.Test.YtaicipldjmngaaaGreatDoorZj6
import Derived.Test.YtaicipldjmngaaaGreatDoorZj9
import Derived.Test.YtaicipldjmngaaaGreatDoorZj11
import Derived.Test.YtaicipldjmngaaaGreatDoorZj19
namespace Go.Proofs.YtaicipldjmngaaaGreatDoor.dr
end Go.Proofs.YtaicipldjmngaaaGreatDoor.dr
namespace Go.Proofs.YtaicipldjmngaaaGreatDoor.wh
end Go.Proofs.YtaicipldjmngaaaGreatDoor.wh
namespace Go.Proofs.YtaicipldjmngaaaGreatDoor.ro
end Go.Proofs.YtaicipldjmngaaaGreatDoor.ro
namespace Go.Proofs.YtaicipldjmngaaaGreatDoor.ru
end Go.Proofs.YtaicipldjmngaaaGreatDoor.ru
namespace Go.Proofs.YtaicipldjmngaaaGreatDoor.db
end Go.Proofs.YtaicipldjmngaaaGreatDoor.db
namespace Go.Proofs.YtaicipldjmngaaaGreatDoor.pr
end Go.Proofs.YtaicipldjmngaaaGreatDoor.pr
namespace Go.Proofs.YtaicipldjmngaaaGreatDoor.sp
end Go.Proofs.YtaicipldjmngaaaGreatDoor.sp
namespace Go.Proofs.YtaicipldjmngaaaGreatDoor.sw
open Go.Proofs.YtaicipldjmngaaaGreatDoor.dr Go.Proofs.YtaicipldjmngaaaGreatDoor.wh Go.Proofs.YtaicipldjmngaaaGreatDoor.ro Go.Proofs.YtaicipldjmngaaaGreatDoor.ru Go.Proofs.YtaicipldjmngaaaGreatDoor.db Go.Proofs.YtaicipldjmngaaaGreatDoor.pr Go.Proofs.YtaicipldjmngaaaGreatDoor.sp
open Go.RowKit
set_option linter.unusedVariables false
set_option linter.unusedSimpArgs false
def Fr (l : Nat → Nat) (w : World) (A : Option Addr) : Prop := ∀ b off, A = some ⟨b, off, none⟩ → b < w.heap.size ∧ ¬ mutl (l b)
abbrev Mu (l : Nat → Nat) : Nat → Prop := fun k => mutl (l k)
section
variable {l l' : Nat → Nat} {w w' : World}
theorem Fr.none (l : Nat → Nat) (w : World) : Fr l w .none := fun b off e => by cases e
theorem Fr.size {A : Option Addr} (h : Fr l w A) (hs : w.heap.size ≤ w'.heap.size) : Fr l w' A := fun b off e => ⟨Nat.lt_of_lt_of_le (h b off e).1 hs, (h b off e).2⟩
theorem Fr.new {w0 : World} (hlt : ∀ k, l k ≠ 0 → k < w0.heap.size) {b off : Nat} (h : w0.heap.size ≤ b) (hb : b < w.heap.size) : Fr l w (some ⟨b, off, .none⟩) := fun b' off' e => by
  simp only [Option.some.injEq, Addr.mk.injEq] at e
  obtain ⟨rfl, _⟩ := e
  exact ⟨hb, fun e2 => by have := hlt b e2.1; omega⟩
theorem _root_.Go.Proofs.YtaicipldjmngaaaGreatDoor.SUp.butF {A : Option Addr} {n : Nat} {us : List Up} (h : SUp w A n us) (hb : But (Mu l) w w') (hf : Fr l w A) : SUp w' A n us :=
  ⟨h.1, fun hn => by
    obtain ⟨b, off, e, hlt, hc⟩ := h.2 hn
    exact ⟨b, off, e, Nat.lt_of_lt_of_le hlt hb.size, fun j hj => (hc j hj).of_block (hb.block b hlt (hf b off e).2)⟩⟩
theorem _root_.Go.Proofs.YtaicipldjmngaaaGreatDoor.sp.UsOk.butF {s : Sl Up} (h : sp.UsOk w s) (hb : But (Mu l) w w') (hf : Fr l w s.A) : sp.UsOk w' s := ⟨SUp.butF h.us hb hf, h.le, h.max, h.nil⟩
structure MsF (l : Nat → Nat) (w : World) (A : Option Addr) (n c : Nat) (lm : List sp.Mi) : Prop where
  ms : sp.Mis w A n c lm
  fr : Fr l w A
  us : ∀ y ∈ lm, Fr l w y.us.A
theorem MsF.but {A : Option Addr} {n c : Nat} {lm : List sp.Mi} (h : MsF l w A n c lm) (hb : But (Mu l) w w') : MsF l w' A n c lm :=
  ⟨⟨h.ms.at_.but hb (fun b off e _ => (h.fr b off e).2), fun y hy => ⟨UsOk.butF (h.ms.ok y hy).1 hb (h.us y hy), (h.ms.ok y hy).2⟩, h.ms.le, h.ms.max, h.ms.nil⟩, h.fr.size hb.size, fun y hy => (h.us y hy).size hb.size⟩
theorem MsF.below {A : Option Addr} {n c : Nat} {lm : List sp.Mi} (h : MsF l w A n c lm) (hb : Below w.heap.size w w') : MsF l w' A n c lm := h.but (But.of_below hb)
structure M1 (l : Nat → Nat) (w : World) (X : Nat) (y : sp.Mi) : Prop where
  blk : sp.MiB w X y
  ok : y.ok w
  fr : ¬ mutl (l X)
  us : Fr l w y.us.A
theorem M1.but {X : Nat} {y : sp.Mi} (h : M1 l w X y) (hb : But (Mu l) w w') : M1 l w' X y :=
  ⟨(hb.block X h.blk.lt h.fr).trans h.blk, ⟨UsOk.butF h.ok.1 hb h.us, h.ok.2⟩, h.fr, h.us.size hb.size⟩
theorem M1.below {X : Nat} {y : sp.Mi} (h : M1 l w X y) (hb : Below w.heap.size w w') : M1 l w' X y := h.but (But.of_below hb)
theorem M1.at_ {X : Nat} {y : sp.Mi} (h : M1 l w X y) : ItAt sp.miC w X 0 y := by
  intro i u hu
  rw [cell_of_row _ _ _ _ _ _ h.blk, Nat.zero_add, ← Array.getElem?_toList]
  exact hu
theorem M1.list {X : Nat} {y : sp.Mi} (h : M1 l w X y) : MsF l w (some ⟨X, 0, .none⟩) 1 1 [y] := by
  refine ⟨⟨⟨rfl, fun _ => ⟨X, 0, rfl, h.blk.lt, fun j hj => ?_⟩⟩, fun z hz => ?_, Nat.le_refl _, by unfold maxLen; omega, (fun h => by cases h)⟩, fun b off e => ?_, fun z hz => ?_⟩
  · have : j = 0 := by simpa using hj
    subst this
    exact h.at_
  · rw [List.mem_singleton.1 hz]; exact h.ok
  · simp only [Option.some.injEq, Addr.mk.injEq] at e
    obtain ⟨rfl, _⟩ := e
    exact ⟨h.blk.lt, h.fr⟩
  · rw [List.mem_singleton.1 hz]; exact h.us
theorem MsF.nil (l : Nat → Nat) (w : World) : MsF l w .none 0 0 [] := ⟨⟨SK.zero, (fun y hy => by cases hy), Nat.le_refl _, Nat.zero_le _, fun _ => rfl⟩, Fr.none l w, (fun y hy => by cases hy)⟩
theorem append_two {X Y : Nat} {y z : sp.Mi} (h : M1 l w X y) (k : M1 l w Y z) (hlt : ∀ b, l b ≠ 0 → b < w.heap.size) (ty : TypeId) :
    ∃ v' w', (Builtin.append_ #[72, 72] ty #[.slice (some ⟨X, 0, .none⟩) 1 1, .slice (some ⟨Y, 0, .none⟩) 1 1]).run Tryz.prog w = .ok v' w' ∧ Below w.heap.size w w' ∧ ∃ A c, v' = .slice A 2 c ∧ MsF l w' A 2 c [y, z] := by
  obtain ⟨i0, hi, hz0, hz1, hz2⟩ := info_parts sp.msg_info
  obtain ⟨v', w', hr, ho, hg⟩ := run_append_arg_grows (P := Tryz.prog) w 72 ty 87 i0 _ 6 64 Tryz.underlying72 hi hz0 hz1 hz2 rfl (by decide) ⟨X, 0, .none⟩ 1 1 (sp.miC y) rfl (fun j u hu => by rw [plain_add]; exact h.at_ j u hu)
    ⟨Y, 0, .none⟩ 1 1 (sp.miC z) rfl (fun j u hu => by rw [plain_add]; exact k.at_ j u hu) (by decide) (by unfold maxLen; omega) (by omega)
  have hb : Below w.heap.size w w' := (Below.refl w.heap.size w).grown hg (Nat.le_refl _) (fun j hj => by cases hj)
  refine ⟨v', w', hr, hb, ?_⟩
  have ho' : sp.miRow w' w.heap.size v' [y, z] := by
    refine ⟨?_, fun u hu => ?_⟩
    · unfold rowK
      simpa using ho
    · rcases List.mem_cons.1 hu with rfl | hu
      · exact (h.below hb).ok
      · rw [List.mem_singleton.1 hu]; exact (k.below hb).ok
  obtain ⟨A, c, e, hM⟩ := sp.Mis.of_row ho'
  refine ⟨A, c, e, hM, fun b off e2 => ?_, fun u hu => ?_⟩
  · have hfrom := rowK.from ho'.1 b (by rw [e, e2]; rfl)
    exact ⟨hfrom.2, fun e3 => by have := hlt b e3.1; omega⟩
  · rcases List.mem_cons.1 hu with rfl | hu
    · exact (h.below hb).us
    · rw [List.mem_singleton.1 hu]; exact (k.below hb).us
end
end Go.Proofs.YtaicipldjmngaaaGreatDoor.sw

namespace Go.Proofs.YtaicipldjmngaaaGreatDoor.dr
end Go.Proofs.YtaicipldjmngaaaGreatDoor.dr
namespace Go.Proofs.YtaicipldjmngaaaGreatDoor.wh
end Go.Proofs.YtaicipldjmngaaaGreatDoor.wh
namespace Go.Proofs.YtaicipldjmngaaaGreatDoor.ro
end Go.Proofs.YtaicipldjmngaaaGreatDoor.ro
namespace Go.Proofs.YtaicipldjmngaaaGreatDoor.ru
end Go.Proofs.YtaicipldjmngaaaGreatDoor.ru
namespace Go.Proofs.YtaicipldjmngaaaGreatDoor.db
end Go.Proofs.YtaicipldjmngaaaGreatDoor.db
namespace Go.Proofs.YtaicipldjmngaaaGreatDoor.pr
end Go.Proofs.YtaicipldjmngaaaGreatDoor.pr
namespace Go.Proofs.YtaicipldjmngaaaGreatDoor.sp
end Go.Proofs.YtaicipldjmngaaaGreatDoor.sp
namespace Go.Proofs.YtaicipldjmngaaaGreatDoor.sw
open Go.Proofs.YtaicipldjmngaaaGreatDoor.dr Go.Proofs.YtaicipldjmngaaaGreatDoor.wh Go.Proofs.YtaicipldjmngaaaGreatDoor.ro Go.Proofs.YtaicipldjmngaaaGreatDoor.ru Go.Proofs.YtaicipldjmngaaaGreatDoor.db Go.Proofs.YtaicipldjmngaaaGreatDoor.pr Go.Proofs.YtaicipldjmngaaaGreatDoor.sp
open Go.RowKit
set_option linter.unusedVariables false
set_option linter.unusedSimpArgs false
theorem up_field2 (a b c : Value) (w : World) : (Instr.field 63 (.agg #[a, b, c]) 2).run Tryz.prog w = .ok c w := by kernel_rfl
section
variable {v : Nv} {l : Nat → Nat} {w : World} {s : Sw} {x : Nc}
theorem made_yes (h : NdX v l w s x) : Calls Tryz.prog 39 #[.pointer (some ⟨v.B, 0, none⟩)] w fun e w' => e = .returned (.bool true) ∧ w = w' := by
  have c17 := h.n.blk.c17
  clear h
  have qM := fun (w : World) (r : Option Nat) => run_neq_map_nil (P := Tryz.prog) w 38 3 102 r Tryz.underlying38
  go_enter Tryz.func39, Tryz.ntmps39
  go_wp2
  go_ret
  exact ⟨rfl, rfl⟩
set_option maxRecDepth 100000 in
theorem active_yes (h : NdX v l w s x) (hb : s.Base) (hg : s.gone = false) : Calls Tryz.prog 43 #[.pointer (some ⟨v.B, 0, none⟩)] w fun e w' => e = .returned (.bool true) ∧ Below w.heap.size w w' := by
  have c12 := h.n.blk.c12
  have HM := Lib.hid (made_yes h)
  obtain ⟨n, hn, hr⟩ := h.r.at_
  obtain ⟨i, h1, _, _⟩ := hb.selfU
  rw [hg] at h1
  have hfd := up_field2
  have HS := Lib.hid (ro.self_any w hr)
  rw [h1] at HS
  clear h hb hg hr h1 hn
  go_enter Tryz.func43, Tryz.ntmps43
  go_wp2_with fail
  refine HM.out.mono ?_
  rintro e w' ⟨rfl, rfl⟩
  go_wp2_with fail
  refine HS.out.mono ?_
  rintro e w1 ⟨rfl, hb⟩
  have HB := Lib.hid hb
  clear hb
  go_wp2
  go_ret
  exact ⟨rfl, HB.out⟩
set_option maxRecDepth 100000 in
theorem active_no (h : NdX v l w s x) (hb : s.Base) (hg : s.gone = true) : Calls Tryz.prog 43 #[.pointer (some ⟨v.B, 0, none⟩)] w fun e w' => e = .returned (.bool false) ∧ Below w.heap.size w w' := by
  have c12 := h.n.blk.c12
  have HM := Lib.hid (made_yes h)
  obtain ⟨n, hn, hr⟩ := h.r.at_
  obtain ⟨i, h1, _, _⟩ := hb.selfU
  rw [hg] at h1
  have hfd := up_field2
  have HS := Lib.hid (ro.self_any w hr)
  rw [h1] at HS
  clear h hb hg hr h1 hn
  go_enter Tryz.func43, Tryz.ntmps43
  go_wp2_with fail
  refine HM.out.mono ?_
  rintro e w' ⟨rfl, rfl⟩
  go_wp2_with fail
  refine HS.out.mono ?_
  rintro e w1 ⟨rfl, hb⟩
  have HB := Lib.hid hb
  clear hb
  go_wp2
  go_ret
  exact ⟨rfl, HB.out⟩
set_option maxRecDepth 100000 in
theorem members_any (h : NdX v l w s x) : Calls Tryz.prog 193 #[.pointer (some ⟨v.B, 0, none⟩)] w fun e w' => e = .returned (.int .i64 (s.live.length : Int)) ∧ Below w.heap.size w w' := by
  have c12 := h.n.blk.c12
  obtain ⟨n, hn, hr⟩ := h.r.at_
  have HL := Lib.hid (ro.live_new w hr)
  rw [live_eq s] at HL
  obtain ⟨m, hm⟩ : ∃ m, s.live.length = m := ⟨_, rfl⟩
  rw [hm]
  have HM := Lib.hid hm
  clear h hr hn hm
  go_enter Tryz.func193, Tryz.ntmps193
  go_wp2_with fail
  refine HL.out.mono ?_
  rintro e w1 ⟨A, c, rfl, _, hb⟩
  rw [HM.out]
  have HB := Lib.hid hb
  clear hb
  go_wp2
  go_ret
  exact ⟨rfl, HB.out⟩
set_option maxRecDepth 100000 in
theorem tell_any (h : NdX v l w s x) (A : Option Addr) (n c : Nat) : Calls Tryz.prog 93 #[.pointer (some ⟨v.B, 0, none⟩), .slice A n c] w fun e w' => e = .returned (.agg #[.int .i64 5, .int .u32 0, .int .i64 s.own, .int .i64 0, .bool false, .slice A n c]) ∧ Below w.heap.size w w' := by
  have c11 := h.n.blk.c11
  have hlt := h.n.blk.lt
  obtain ⟨own, ho⟩ : ∃ own, s.own = own := ⟨_, rfl⟩
  rw [ho] at c11 ⊢
  clear h ho
  go_enter Tryz.func93, Tryz.ntmps93
  go_wp2
  obtain ⟨d0, d1, d2, d3, d4, d5⟩ := sp.blk6 (heap_alloc_new w (.cells #[.int .i64 5, .int .u32 0, .int .i64 own, .int .i64 0, .bool false, .slice A n c] 87))
  exact bodyPost_ret (v := .agg #[.int .i64 5, .int .u32 0, .int .i64 own, .int .i64 0, .bool false, .slice A n c]) (by simp [results, Tryz.results93, go_sem, d0, d1, d2, d3, d4, d5]) rfl ⟨rfl, below1 _ _⟩
end
theorem _root_.Go.Proofs.YtaicipldjmngaaaGreatDoor.upRow.mi {w : World} {base : Nat} {A : Option Addr} {n c : Nat} {us : List Up} (h : upRow w base (.slice A n c) us) : n = us.length ∧ sp.UsOk w ⟨A, c, us⟩ ∧ ∀ b off, A = some ⟨b, off, none⟩ → base ≤ b := by
  obtain ⟨A', c', e, h1, h2, h3⟩ := SUp.of_row h
  simp only [Value.slice.injEq] at e
  obtain ⟨rfl, rfl, rfl⟩ := e
  refine ⟨rfl, ⟨h1, h2, h3, fun hA' => ?_⟩, fun b off e => ?_⟩
  · have hA : A = none := hA'
    show c = 0
    rcases h.2 with ⟨e, _⟩ | ⟨g, _, _, e, _⟩
    · simp only [Value.slice.injEq] at e; exact e.2.2
    · simp only [Value.slice.injEq] at e; rw [hA] at e; cases e.1
  · rcases h.2 with ⟨e', _⟩ | ⟨g, _, _, e', hg, _⟩
    · simp only [Value.slice.injEq] at e'; rw [e'.1] at e; cases e
    · simp only [Value.slice.injEq] at e'; rw [e'.1] at e
      simp only [Option.some.injEq, Addr.mk.injEq] at e
      omega
theorem _root_.Go.Proofs.YtaicipldjmngaaaGreatDoor.upRow.form {w : World} {base : Nat} {v : Value} {us : List Up} (h : upRow w base v us) : ∃ A c, v = .slice A us.length c := by
  obtain ⟨A', c', e, _⟩ := SUp.of_row h
  exact ⟨A', c', e⟩
def riR (S : Nat → Prop) (nv : Nv) (W0 : World) (s : Sw) (us : List Up) (m : Nat) : Nat → Value → World → Prop
  | 0, v, _ => v = .pointer (some ⟨nv.B, 0, none⟩)
  | 1, v, _ => v = .pointer (some ⟨nv.B, 0, none⟩)
  | 2, v, _ => v = .pointer (some ⟨nv.B, 12, none⟩)
  | 3, v, _ => v = .pointer (some ⟨nv.B, 13, none⟩)
  | 4, v, _ => v = .pointer (some ⟨nv.Bq, 0, none⟩)
  | 5, v, _ => v = .pointer (some ⟨nv.B, 0, none⟩)
  | 6, v, _ => v = .pointer (some ⟨nv.B, 0, none⟩)
  | 7, v, _ => v = .pointer (some ⟨nv.B, 0, none⟩)
  | 8, v, _ => v = .pointer (some ⟨nv.B, 7, none⟩)
  | 9, v, _ => v = .int .i64 s.c.piggy
  | 10, v, _ => v = .pointer (some ⟨nv.B, 0, none⟩)
  | 11, v, _ => v = .int .i64 (m : Int)
  | 12, v, w => upRow w W0.heap.size v us
  | 13, v, w => upRow w W0.heap.size v us
  | _, _, _ => True
theorem riR_stable (nv : Nv) (W0 : World) (s : Sw) (us : List Up) (m : Nat) : ∀ i v w w', riR (OldB W0) nv W0 s us m i v w → But (OldB W0) w w' → riR (OldB W0) nv W0 s us m i v w'
  | 0, _, _, _, h, _ | 1, _, _, _, h, _ | 2, _, _, _, h, _ | 3, _, _, _, h, _ | 4, _, _, _, h, _ | 5, _, _, _, h, _ | 6, _, _, _, h, _ | 7, _, _, _, h, _ | 8, _, _, _, h, _ | 9, _, _, _, h, _ | 10, _, _, _, h, _ | 11, _, _, _, h, _ => h
  | 12, _, _, _, h, g => own_old h g
  | 13, _, _, _, h, g => own_old h g
  | _ + 14, _, _, _, h, _ => h
def RideV (l : Nat → Nat) (w : World) (s : Sw) (u : Value) : Prop := (s.takes.1 = [] ∧ u = .slice none 0 0) ∨ (s.takes.1 ≠ [] ∧ ∃ X z, u = .slice (some ⟨X, 0, none⟩) 1 1 ∧ M1 l w X z ∧ z.m = tellM s.own s.takes.1)
theorem RideV.but {l : Nat → Nat} {w w' : World} {s : Sw} {u : Value} (h : RideV l w s u) (hb : But (Mu l) w w') : RideV l w' s u := h.imp id (fun ⟨h0, X, z, h1, h2, h3⟩ => ⟨h0, X, z, h1, h2.but hb, h3⟩)
def RidePost (nv : Nv) (l : Nat → Nat) (W0 : World) (s : Sw) (x : Nc) (e : Ending) (w' : World) : Prop :=
  ∃ vt, e = .returned vt ∧ RideV l w' s vt ∧ NdX nv l w' { s with q := s.takes.2 } x ∧ But (fun k => k = nv.Bq ∨ k = nv.Mq) W0 w'
set_option maxHeartbeats 8000000 in
set_option maxRecDepth 100000 in
theorem riding_any {nv : Nv} {l : Nat → Nat} {W0 : World} {s : Sw} {x : Nc} (h : NdX nv l W0 s x) (hb : s.Base) :
    Calls Tryz.prog 127 #[.pointer (some ⟨nv.B, 0, none⟩)] W0 (RidePost nv l W0 s x) := by
  have HC := Lib.hid (fun W (hw : Below W0.heap.size W0 W) => (h.below hw).n.blk)
  have HMem := Lib.hid (fun W (hw : Below W0.heap.size W0 W) => members_any (h.below hw))
  have hlv := live_len s
  have hpg := hb.c.piggy
  have HTk := Lib.hid (fun W (hw : Below W0.heap.size W0 W) => ru.take_any s.c.piggy ((s.live.length : Nat) : Int) (by unfold ru.wfI; omega) (by unfold ru.wfI; omega) W (h.below hw).q.at_ (fun r hr => Nat.le_trans (hb.qw r hr).2 (by omega)))
  have HLt : Hid (∀ k, (k = nv.Bq ∨ k = nv.Mq) → k < W0.heap.size) := Lib.hid (fun k e => by have := h.q.at_.lt; rcases e with e | e <;> rw [e]; exact this.1; exact this.2)
  have HT := Lib.hid hb.takes
  have HLt0 := Lib.hid h.lt
  have HO := Lib.hid hb.ownN
  have HPart := Lib.hid (fun (W : World) (q : ru.Qu) (hbq : But (fun k => k = nv.Bq ∨ k = nv.Mq) W0 W) (hq : ru.QuAt W nv.Bq nv.Mq q) (hc : s.q.clock ≤ q.clock) => (h.partQ hbq hq hc).1)
  have HTs : Hid (s.takes = s.q.take s.c.piggy.toNat (ru.limitQ s.q.mult (s.live.length : Nat))) := Lib.hid rfl
  have HClk : Hid (s.q.clock ≤ s.takes.2.clock) := Lib.hid (Nat.le_refl _)
  obtain ⟨m, hm⟩ : ∃ m, s.live.length = m := ⟨_, rfl⟩
  rw [hm] at HMem HTk
  obtain ⟨us, hus⟩ : ∃ us, s.takes.1 = us := ⟨_, rfl⟩
  obtain ⟨q2, hq2⟩ : ∃ q2, s.takes.2 = q2 := ⟨_, rfl⟩
  have HPO : Hid (RidePost nv l W0 s x = RidePost nv l W0 s x) := Lib.hid rfl
  unfold ru.TakePost at HTk
  have HTk2 : Hid (∀ W, Below W0.heap.size W0 W → Calls Tryz.prog 192 #[.pointer (some ⟨nv.Bq, 0, none⟩), .int .i64 s.c.piggy, .int .i64 (m : Int)] W fun e w' => ∃ vt, e = .returned vt ∧ upRow w' W.heap.size vt us ∧ ru.QuAt w' nv.Bq nv.Mq q2 ∧ But (fun k => k = nv.Bq ∨ k = nv.Mq) W w') := Lib.hid (fun W hw => by
    have := HTk.out W hw
    have e := HTs.out
    rw [hm] at e
    rw [← e, hus, hq2] at this
    exact this)
  clear HTk
  have HTk := HTk2
  clear HTk2
  rw [hus, hq2] at HT
  rw [hq2] at HClk
  have HUs := Lib.hid hus
  have HQ2 := Lib.hid hq2
  clear h hb hlv hpg hm hus hq2 HPO HTs
  go_enter Tryz.func127, Tryz.ntmps127
  go_wp2
  refine Go.Rel.wp_region_states (by kernel_rfl) (by kernel_rfl) (by kernel_rfl) (by kernel_rfl) (TI 12 W0 (fun W => ru.QuAt W nv.Bq nv.Mq q2 ∧ But (fun k => k = nv.Bq ∨ k = nv.Mq) W0 W)) (But (OldB W0)) (fun _ _ _ h k => h.trans k) OldB.drew TI.start (riR (OldB W0) nv W0 s us m) (riR_stable nv W0 s us m) ?hs1 ?he1
  case hs1 =>
    refine (.cons ?_ (.cons ?_ (.cons ?_ (.cons ?_ (.cons ?_ (.cons ?_ (.cons ?_ (.cons ?_ (.cons ?_ (.cons ?_ (.cons ?_ (.cons ?_ (.cons ?_ (.cons ?_ .nil))))))))))))))
    · intro f a w' hI hf hanc hdesc hle hs' hd K hK
      have f0 : a.tmps[0]? = some (.pointer (some ⟨nv.B, 0, none⟩)) := hs'.2.2 0 (by kernel_rfl)
      unfold Go.Rel.stepOf
      go_simp
      exact hK _ _ (But.refl _ _) (hI.read (j := 0) (by decide)) rfl
    · intro f a w' hI hf hanc hdesc hle hs' hd K hK
      obtain ⟨_, t0, rfl⟩ := hd 0 4 (by kernel_rfl)
      unfold Go.Rel.stepOf
      go_simp
      exact hK _ _ (But.refl _ _) (hI.read (j := 1) (by decide)) rfl
    · intro f a w' hI hf hanc hdesc hle hs' hd K hK
      obtain ⟨_, t1, rfl⟩ := hd 1 5 (by kernel_rfl)
      unfold Go.Rel.stepOf
      go_simp
      exact hK _ _ (But.refl _ _) (hI.read (j := 2) (by decide)) rfl
    · intro f a w' hI hf hanc hdesc hle hs' hd K hK
      obtain ⟨_, t2, rfl⟩ := hd 2 6 (by kernel_rfl)
      unfold Go.Rel.stepOf
      go_simp
      exact hK _ _ (But.refl _ _) (hI.read (j := 3) (by decide)) rfl
    · intro f a w' hI hf hanc hdesc hle hs' hd K hK
      obtain ⟨_, t3, rfl⟩ := hd 3 7 (by kernel_rfl)
      have zL : f 12 = false := hdesc 60 12 (by kernel_rfl)
      have cc := (HC.out w' (hI.ahead zL)).c13
      unfold Go.Rel.stepOf
      go_simp
      exact hK _ _ (But.refl _ _) (hI.read (j := 4) (by decide)) rfl
    · intro f a w' hI hf hanc hdesc hle hs' hd K hK
      have f0 : a.tmps[0]? = some (.pointer (some ⟨nv.B, 0, none⟩)) := hs'.2.2 0 (by kernel_rfl)
      unfold Go.Rel.stepOf
      go_simp
      exact hK _ _ (But.refl _ _) (hI.read (j := 5) (by decide)) rfl
    · intro f a w' hI hf hanc hdesc hle hs' hd K hK
      obtain ⟨_, t5, rfl⟩ := hd 5 9 (by kernel_rfl)
      unfold Go.Rel.stepOf
      go_simp
      exact hK _ _ (But.refl _ _) (hI.read (j := 6) (by decide)) rfl
    · intro f a w' hI hf hanc hdesc hle hs' hd K hK
      obtain ⟨_, t6, rfl⟩ := hd 6 10 (by kernel_rfl)
      unfold Go.Rel.stepOf
      go_simp
      exact hK _ _ (But.refl _ _) (hI.read (j := 7) (by decide)) rfl
    · intro f a w' hI hf hanc hdesc hle hs' hd K hK
      obtain ⟨_, t7, rfl⟩ := hd 7 11 (by kernel_rfl)
      unfold Go.Rel.stepOf
      go_simp
      exact hK _ _ (But.refl _ _) (hI.read (j := 8) (by decide)) rfl
    · intro f a w' hI hf hanc hdesc hle hs' hd K hK
      obtain ⟨_, t8, rfl⟩ := hd 8 12 (by kernel_rfl)
      have zL : f 12 = false := hdesc 60 12 (by kernel_rfl)
      have cc := (HC.out w' (hI.ahead zL)).c7
      unfold Go.Rel.stepOf
      go_simp
      exact hK _ _ (But.refl _ _) (hI.read (j := 9) (by decide)) rfl
    · intro f a w' hI hf hanc hdesc hle hs' hd K hK
      have f0 : a.tmps[0]? = some (.pointer (some ⟨nv.B, 0, none⟩)) := hs'.2.2 0 (by kernel_rfl)
      unfold Go.Rel.stepOf
      go_simp
      exact hK _ _ (But.refl _ _) (hI.read (j := 10) (by decide)) rfl
    · intro f a w' hI hf hanc hdesc hle hs' hd K hK
      obtain ⟨_, t10, rfl⟩ := hd 10 14 (by kernel_rfl)
      have zL : f 12 = false := hdesc 60 12 (by kernel_rfl)
      unfold Go.Rel.stepOf
      go_simp
      have zL : f 12 = false := hdesc 60 12 (by kernel_rfl)
      refine (HMem.out w' (hI.ahead zL)).mono ?_
      rintro e w2 ⟨rfl, hb2⟩
      exact hK _ _ (But.of_below hb2) (hI.below zL hb2 (by decide)) rfl
    · intro f a w' hI hf hanc hdesc hle hs' hd K hK
      obtain ⟨_, t4, rfl⟩ := hd 4 8 (by kernel_rfl)
      obtain ⟨_, t9, rfl⟩ := hd 9 13 (by kernel_rfl)
      obtain ⟨_, t11, rfl⟩ := hd 11 15 (by kernel_rfl)
      unfold Go.Rel.stepOf
      go_simp
      refine (HTk.out w' (hI.ahead hf)).mono ?_
      rintro e w2 ⟨vt, rfl, hrow, hq, hbq⟩
      exact hK _ _ (But.oldB hbq HLt.out) (TI.last ⟨hq, (But.of_below (hI.ahead hf)).trans hbq⟩) (bown_base hrow (hI.ahead hf).size)
    · intro f a w' hI hf hanc hdesc hle hs' hd K hK
      obtain ⟨_, t12, h12⟩ := hd 12 16 (by kernel_rfl)
      unfold Go.Rel.stepOf
      go_simp
      exact hK _ _ (But.refl _ _) (hI.read (j := 13) (by decide)) h12
  case he1 =>
    intro f a w1 hall hJ hle hs' hR'
    have HP1 := Lib.hid (hJ.done_ (hall 12 (by decide)))
    clear hJ hall hle
    obtain ⟨v4, s4, _⟩ := hR' 0 4 (by kernel_rfl)
    obtain ⟨v5, s5, _⟩ := hR' 1 5 (by kernel_rfl)
    obtain ⟨v6, s6, _⟩ := hR' 2 6 (by kernel_rfl)
    obtain ⟨v7, s7, _⟩ := hR' 3 7 (by kernel_rfl)
    obtain ⟨v8, s8, _⟩ := hR' 4 8 (by kernel_rfl)
    obtain ⟨v9, s9, _⟩ := hR' 5 9 (by kernel_rfl)
    obtain ⟨v10, s10, _⟩ := hR' 6 10 (by kernel_rfl)
    obtain ⟨v11, s11, _⟩ := hR' 7 11 (by kernel_rfl)
    obtain ⟨v12, s12, _⟩ := hR' 8 12 (by kernel_rfl)
    obtain ⟨v13, s13, _⟩ := hR' 9 13 (by kernel_rfl)
    obtain ⟨v14, s14, _⟩ := hR' 10 14 (by kernel_rfl)
    obtain ⟨v15, s15, _⟩ := hR' 11 15 (by kernel_rfl)
    obtain ⟨v16, s16, _⟩ := hR' 12 16 (by kernel_rfl)
    obtain ⟨u3, s3, h13⟩ := hR' 13 3 (by kernel_rfl)
    have e := hs'.shape
    simp only [List.toList_toArray, List.foldl, Go.Rel.reset, Array.getD_eq_getD_getElem?, s4, s5, s6, s7, s8, s9, s10, s11, s12, s13, s14, s15, s16, s3, Option.getD_some] at e
    simp at e
    clear hR' hs' s4 s5 s6 s7 s8 s9 s10 s11 s12 s13 s14 s15 s16 s3
    subst e
    obtain ⟨A1, c1, rfl⟩ := upRow.form h13
    have HRow := Lib.hid h13
    have HNd : Hid (NdX nv l w1 { s with q := q2 } x) := Lib.hid (HPart.out w1 q2 HP1.out.2 HP1.out.1 HClk.out)
    have HFin0 : Hid (us = [] → RidePost nv l W0 s x (.returned (.slice none 0 0)) w1) := Lib.hid (fun e => ⟨_, rfl, .inl ⟨by rw [HUs.out]; exact e, rfl⟩, by rw [HQ2.out]; exact HNd.out, HP1.out.2⟩)
    obtain ⟨n, hn⟩ : ∃ n, us.length = n := ⟨_, rfl⟩
    have HN := Lib.hid hn
    rw [hn] at HRow ⊢
    clear hn h13
    by_cases h0 : n = 0
    · subst h0
      have HF := Lib.hid (HFin0.out (List.eq_nil_of_length_eq_zero HN.out))
      go_wp2
      go_ret
      exact HF.out
    · have e0 : ((n : Int) == 0) = false := by rw [beq_eq_false_iff_ne]; omega
      have HTl := Lib.hid (tell_any HNd.out A1 n c1)
      have HNe : Hid (us ≠ []) := Lib.hid (fun e => h0 (by rw [← HN.out, e]; rfl))
      obtain ⟨own, ho⟩ : ∃ own, s.own = own := ⟨_, rfl⟩
      have HOwn := Lib.hid ho
      have e1 : ({ s with q := q2 } : Sw).own = own := ho
      rw [e1] at HTl
      clear h0 ho e1
      go_wp2_with fail
      refine HTl.out.mono ?_
      rintro e w2 ⟨rfl, hb2⟩
      have HF : Hid (RidePost nv l W0 s x (.returned (.slice (some ⟨w2.heap.size, 0, none⟩) 1 1)) (w2.alloc (.cells #[.int .i64 5, .int .u32 0, .int .i64 own, .int .i64 0, .bool false, .slice A1 n c1] 87))) := Lib.hid (by
        have hr := HRow.out
        obtain ⟨_, hus, hnew⟩ := upRow.mi hr
        have hb3 := HP1.out.2.size
        have hy : (⟨5, 0, own, 0, false, ⟨A1, c1, us⟩⟩ : sp.Mi).ok w2 := ⟨hus.below hb2, ⟨by show (0 : Nat) < _; omega, fun u hu => (HT.out.2.1 u hu).2.1⟩⟩
        have hlt := HLt0.out
        have h8 := sp.MiB.new w2 ⟨5, 0, own, 0, false, ⟨A1, c1, us⟩⟩
        have e7 : ((0 : Nat) : Int) = 0 := rfl
        simp only [e7, HN.out] at h8
        have h9 := below1 w2 (.cells #[.int .i64 5, .int .u32 0, .int .i64 own, .int .i64 0, .bool false, .slice A1 n c1] 87)
        have hb2s := hb2.size
        have hA1 : ∀ b off, A1 = some ⟨b, off, none⟩ → b < w1.heap.size := fun b off e => by
          rcases hr.2 with ⟨e', _⟩ | ⟨g, _, _, e', _, hh, _⟩
          · simp only [Value.slice.injEq] at e'; rw [e'.1] at e; cases e
          · simp only [Value.slice.injEq] at e'; rw [e'.1] at e
            simp only [Option.some.injEq, Addr.mk.injEq] at e
            rw [← e.1]
            exact block_lt hh
        refine ⟨_, rfl, .inr ⟨by rw [HUs.out]; exact HNe.out, w2.heap.size, ⟨5, 0, own, 0, false, ⟨A1, c1, us⟩⟩, rfl, ⟨h8, hy.below h9, fun e => ?_, fun b off e => ?_⟩, ?_⟩, ?_, ?_⟩
        · have := hlt _ e.1
          omega
        · have h10 := hnew b off e
          have h11 := hA1 b off e
          exact ⟨Nat.lt_of_lt_of_le (Nat.lt_of_lt_of_le h11 hb2s) h9.size, fun e2 => by have := hlt _ e2.1; omega⟩
        · rw [HUs.out, HOwn.out]
          rfl
        · rw [HQ2.out]; exact HNd.out.below (hb2.trans (h9.mono hb2s))
        · exact HP1.out.2.trans (But.of_below (hb2.trans (h9.mono hb2s))))
      clear hb2
      go_wp2
      go_ret
      exact HF.out
end Go.Proofs.YtaicipldjmngaaaGreatDoor.sw

namespace Go.Proofs.YtaicipldjmngaaaGreatDoor.dr
end Go.Proofs.YtaicipldjmngaaaGreatDoor.dr
namespace Go.Proofs.YtaicipldjmngaaaGreatDoor.wh
end Go.Proofs.YtaicipldjmngaaaGreatDoor.wh
namespace Go.Proofs.YtaicipldjmngaaaGreatDoor.ro
end Go.Proofs.YtaicipldjmngaaaGreatDoor.ro
namespace Go.Proofs.YtaicipldjmngaaaGreatDoor.ru
end Go.Proofs.YtaicipldjmngaaaGreatDoor.ru
namespace Go.Proofs.YtaicipldjmngaaaGreatDoor.db
end Go.Proofs.YtaicipldjmngaaaGreatDoor.db
namespace Go.Proofs.YtaicipldjmngaaaGreatDoor.pr
end Go.Proofs.YtaicipldjmngaaaGreatDoor.pr
namespace Go.Proofs.YtaicipldjmngaaaGreatDoor.sp
end Go.Proofs.YtaicipldjmngaaaGreatDoor.sp
namespace Go.Proofs.YtaicipldjmngaaaGreatDoor.sw
open Go.Proofs.YtaicipldjmngaaaGreatDoor.dr Go.Proofs.YtaicipldjmngaaaGreatDoor.wh Go.Proofs.YtaicipldjmngaaaGreatDoor.ro Go.Proofs.YtaicipldjmngaaaGreatDoor.ru Go.Proofs.YtaicipldjmngaaaGreatDoor.db Go.Proofs.YtaicipldjmngaaaGreatDoor.pr Go.Proofs.YtaicipldjmngaaaGreatDoor.sp
open Go.RowKit
set_option linter.unusedVariables false
set_option linter.unusedSimpArgs false
theorem pk_info : (Tryz.prog.info? 29).map (fun i => (i.zero, i.size, i.bytes)) = some (some (.agg #[.int .i64 0, .int .i64 0, .slice none 0 0]), 3, 40) := by kernel_rfl
noncomputable def poR (S : Nat → Prop) (nv : Nv) (s : Sw) (x : Nc) (p : Pkt) (A1 : Option Addr) (c1 : Nat) : Nat → Value → World → Prop
  | 0, v, _ => v = .pointer (some ⟨nv.B, 0, none⟩)
  | 1, v, _ => v = .pointer (some ⟨nv.B, 0, none⟩)
  | 2, v, _ => v = .pointer (some ⟨nv.B, 0, none⟩)
  | 3, v, _ => v = .pointer (some ⟨nv.B, 33, none⟩)
  | 4, v, _ => v = x.ou
  | 5, v, _ => v = .pointer (some ⟨nv.B, 0, none⟩)
  | 6, v, _ => v = .pointer (some ⟨nv.B, 0, none⟩)
  | 7, v, _ => v = .pointer (some ⟨nv.B, 11, none⟩)
  | 8, v, _ => v = .int .i64 s.own
  | 9, v, _ => v = .int .i64 p.to
  | 10, v, _ => v = .slice A1 p.bytes.length c1
  | 11, v, _ => v = .agg #[.int .i64 s.own, .int .i64 p.to, .slice A1 p.bytes.length c1]
  | 12, v, w => True
  | 13, v, w => True
  | 14, v, _ => v = .pointer (some ⟨nv.B, 0, none⟩)
  | 15, v, _ => v = .pointer (some ⟨nv.B, 33, none⟩)
  | 16, v, w => True
  | _, _, _ => True
theorem poR_stable (S : Nat → Prop) (nv : Nv) (s : Sw) (x : Nc) (p : Pkt) (A1 : Option Addr) (c1 : Nat) : ∀ i v w w', poR S nv s x p A1 c1 i v w → But S w w' → poR S nv s x p A1 c1 i v w'
  | 0, _, _, _, h, _ | 1, _, _, _, h, _ | 2, _, _, _, h, _ | 3, _, _, _, h, _ | 4, _, _, _, h, _ | 5, _, _, _, h, _ | 6, _, _, _, h, _ | 7, _, _, _, h, _ | 8, _, _, _, h, _ | 9, _, _, _, h, _ | 10, _, _, _, h, _ | 11, _, _, _, h, _ | 14, _, _, _, h, _ | 15, _, _, _, h, _ => h
  | 12, _, _, _, h, g => trivial
  | 13, _, _, _, h, g => trivial
  | 16, _, _, _, h, g => trivial
  | _ + 17, _, _, _, h, _ => h
set_option maxHeartbeats 8000000 in
set_option maxRecDepth 100000 in
theorem post_any {nv : Nv} {l : Nat → Nat} {W0 : World} {s : Sw} {x : Nc} (h : NdX nv l W0 s x) (p : Pkt) (hp : p.Ok) (A : Option Addr) (n c : Nat) (lm : List sp.Mi) (hm : MsF l W0 A n c lm) (he : lm.map sp.Mi.m = p.ms) (hlen : s.out.length ≤ 1000000) :
    Calls Tryz.prog 92 #[.pointer (some ⟨nv.B, 0, none⟩), .int .i64 p.to, .slice A n c] W0 fun e w' => e = .returned (.tuple #[]) ∧ Then nv l W0 { s with out := s.out ++ [p] } w' := by
  obtain ⟨i0, hi, hz0, hz1, hz2⟩ := info_parts pk_info
  obtain ⟨L, hL, hrowL, hok⟩ := h.n.out.row
  have hll : L.length = s.out.length := by rw [← hL, List.length_map]
  have hl6 : L.length ≤ 1000000 := by omega
  have hpk := hp.packs
  have hn2 : n ≤ 2199023255488 := by
    have h1 := hm.ms.at_.1
    have h2 := congrArg List.length he
    rw [List.length_map] at h2
    have h3 := hp.few
    omega
  have HPk : Hid (Calls Tryz.prog 30 #[.slice A n c] W0 fun e w' => ∃ A1 c1, e = .returned (.tuple #[.slice A1 p.bytes.length c1, .int .i64 0]) ∧ w'.ownsRow W0.heap.size 5 1 (.slice A1 p.bytes.length c1) p.bytes.length (p.bytes.map byteV) ∧ Below W0.heap.size W0 w') := Lib.hid (by
    refine (sp.mpack_new A n c lm W0 hm.ms hn2).mono ?_
    rintro e w' ⟨hb, hr⟩
    rw [he] at hr
    rcases hr with ⟨h1, _⟩ | ⟨_, A1, c1, h2, h3⟩
    · exact absurd hpk.1 h1
    · exact ⟨A1, c1, h2, h3, hb⟩)
  have H := Lib.hid h
  have HL := Lib.hid (And.intro hL hok)
  have HRow := Lib.hid hrowL
  have HLen : Hid (p.bytes.length ≤ 1400) := Lib.hid hpk.2
  have HNe : Hid (x.ou.ownBlock ≠ some nv.B) := Lib.hid (fun e => by have h1 := h.n.out.lab _ e; rw [h.n.lB] at h1; cases h1)
  clear h hL hrowL hok hll hpk hn2 hm he hlen
  go_enter Tryz.func92, Tryz.ntmps92
  go_wp2_with fail
  refine HPk.out.mono ?_
  rintro e W1 ⟨A1, c1, rfl, hby, hb⟩
  have HBy := Lib.hid hby
  have HB := Lib.hid hb
  have HBk : Hid (NBlk W1 nv s.c s.own x) := Lib.hid (H.out.below hb).n.blk
  have HBl : Hid (nv.B < W1.heap.size) := Lib.hid HBk.out.lt
  have HOwn : Hid (rowK (poC s.own) TK 3 W1 0 x.ou L) := Lib.hid (HRow.out.below hb)
  clear hby hb
  go_wp2
  refine Go.Rel.wp_region_acts (by kernel_rfl) (by kernel_rfl) (by kernel_rfl) (by kernel_rfl) (ApF (poC s.own) TK 3 nv.B 33 12 13 16 27 28 x.ou L (⟨p, A1, c1⟩ : Po) W1) (But (fun j => x.ou.ownBlock = some j ∨ j = nv.B)) (fun _ _ _ h k => h.trans k) ((But.refl _ _).drew) ApF.start (poR (fun j => x.ou.ownBlock = some j ∨ j = nv.B) nv s x p A1 c1) (poR_stable (fun j => x.ou.ownBlock = some j ∨ j = nv.B) nv s x p A1 c1) ?hs2 ?he2
  case hs2 =>
    refine (.cons ?_ (.cons ?_ (.cons ?_ (.cons ?_ (.cons ?_ (.cons ?_ (.cons ?_ (.cons ?_ (.cons ?_ (.cons ?_ (.cons ?_ (.cons ?_ (.cons ?_ (.cons ?_ (.cons ?_ (.cons ?_ (.cons ?_ .nil)))))))))))))))))
    · intro f a w' hI hf hanc hdesc hle hs' hd K hK
      have f0 : a.tmps[0]? = some (.pointer (some ⟨nv.B, 0, none⟩)) := hs'.2.2 0 (by kernel_rfl)
      unfold Go.Rel.stepOf
      go_simp
      exact hK _ _ (But.refl _ _) (hI.keep (j := 0) (t := 15) (by decide) (by decide) _) rfl
    · intro f a w' hI hf hanc hdesc hle hs' hd K hK
      have f0 : a.tmps[0]? = some (.pointer (some ⟨nv.B, 0, none⟩)) := hs'.2.2 0 (by kernel_rfl)
      unfold Go.Rel.stepOf
      go_simp
      exact hK _ _ (But.refl _ _) (hI.keep (j := 1) (t := 16) (by decide) (by decide) _) rfl
    · intro f a w' hI hf hanc hdesc hle hs' hd K hK
      obtain ⟨_, t1, rfl⟩ := hd 1 16 (by kernel_rfl)
      unfold Go.Rel.stepOf
      go_simp
      exact hK _ _ (But.refl _ _) (hI.keep (j := 2) (t := 17) (by decide) (by decide) _) rfl
    · intro f a w' hI hf hanc hdesc hle hs' hd K hK
      obtain ⟨_, t2, rfl⟩ := hd 2 17 (by kernel_rfl)
      unfold Go.Rel.stepOf
      go_simp
      exact hK _ _ (But.refl _ _) (hI.keep (j := 3) (t := 18) (by decide) (by decide) _) rfl
    · intro f a w' hI hf hanc hdesc hle hs' hd K hK
      obtain ⟨_, t3, rfl⟩ := hd 3 18 (by kernel_rfl)
      have zS : f 16 = false := hdesc 60 16 (by kernel_rfl)
      have cc := (HBk.out.keep (hI.blk zS)).c33
      unfold Go.Rel.stepOf
      go_simp
      exact hK _ _ (But.refl _ _) (hI.keep (j := 4) (t := 19) (by decide) (by decide) _) rfl
    · intro f a w' hI hf hanc hdesc hle hs' hd K hK
      have f0 : a.tmps[0]? = some (.pointer (some ⟨nv.B, 0, none⟩)) := hs'.2.2 0 (by kernel_rfl)
      unfold Go.Rel.stepOf
      go_simp
      exact hK _ _ (But.refl _ _) (hI.keep (j := 5) (t := 20) (by decide) (by decide) _) rfl
    · intro f a w' hI hf hanc hdesc hle hs' hd K hK
      obtain ⟨_, t5, rfl⟩ := hd 5 20 (by kernel_rfl)
      unfold Go.Rel.stepOf
      go_simp
      exact hK _ _ (But.refl _ _) (hI.keep (j := 6) (t := 21) (by decide) (by decide) _) rfl
    · intro f a w' hI hf hanc hdesc hle hs' hd K hK
      obtain ⟨_, t6, rfl⟩ := hd 6 21 (by kernel_rfl)
      unfold Go.Rel.stepOf
      go_simp
      exact hK _ _ (But.refl _ _) (hI.keep (j := 7) (t := 22) (by decide) (by decide) _) rfl
    · intro f a w' hI hf hanc hdesc hle hs' hd K hK
      obtain ⟨_, t7, rfl⟩ := hd 7 22 (by kernel_rfl)
      have zS : f 16 = false := hdesc 60 16 (by kernel_rfl)
      have cc := (HBk.out.keep (hI.blk zS)).c11
      unfold Go.Rel.stepOf
      go_simp
      exact hK _ _ (But.refl _ _) (hI.keep (j := 8) (t := 23) (by decide) (by decide) _) rfl
    · intro f a w' hI hf hanc hdesc hle hs' hd K hK
      have f1 : a.tmps[1]? = some (.int .i64 p.to) := hs'.2.2 1 (by kernel_rfl)
      unfold Go.Rel.stepOf
      go_simp
      exact hK _ _ (But.refl _ _) (hI.keep (j := 9) (t := 24) (by decide) (by decide) _) rfl
    · intro f a w' hI hf hanc hdesc hle hs' hd K hK
      have f6 : a.tmps[6]? = some (.slice A1 p.bytes.length c1) := hs'.2.2 6 (by kernel_rfl)
      unfold Go.Rel.stepOf
      go_simp
      exact hK _ _ (But.refl _ _) (hI.keep (j := 10) (t := 25) (by decide) (by decide) _) rfl
    · intro f a w' hI hf hanc hdesc hle hs' hd K hK
      obtain ⟨_, t8, rfl⟩ := hd 8 23 (by kernel_rfl)
      obtain ⟨_, t9, rfl⟩ := hd 9 24 (by kernel_rfl)
      obtain ⟨_, t10, rfl⟩ := hd 10 25 (by kernel_rfl)
      unfold Go.Rel.stepOf
      go_simp
      exact hK _ _ (But.refl _ _) (hI.keep (j := 11) (t := 26) (by decide) (by decide) _) rfl
    · intro f a w' hI hf hanc hdesc hle hs' hd K hK
      obtain ⟨_, t11, rfl⟩ := hd 11 26 (by kernel_rfl)
      have zA : f 13 = false := hdesc 60 13 (by kernel_rfl)
      have zS : f 16 = false := hdesc 60 16 (by kernel_rfl)
      unfold Go.Rel.stepOf
      go_simp
      exact hK _ _ ((But.refl _ _).alloc _) (hI.lay (by decide) zA zS HBl.out _ rfl _) trivial
    · intro f a w' hI hf hanc hdesc hle hs' hd K hK
      obtain ⟨_, t4, rfl⟩ := hd 4 19 (by kernel_rfl)
      obtain ⟨_, t12, _⟩ := hd 12 27 (by kernel_rfl)
      have zB : f 12 = true := hanc 60 12 (by kernel_rfl)
      have zS : f 16 = false := hdesc 60 16 (by kernel_rfl)
      obtain ⟨v3, w3, hr3, hb3, hJ3⟩ := hI.append (P := Tryz.prog) (by decide) zB hf zS HOwn.out HNe.out HBl.out 46 46 i0 _ 40 Tryz.underlying46 hi hz0 hz1 hz2 rfl (by decide) (poC_length s.own) (poC_one s.own) (by unfold maxLen; omega) (by omega) t12
      exact acc_stepOf_append (.tmp 19) (.tmp 27) 46 rfl rfl (by simp [Act.eval, t4]) (by simp [Act.eval, t12]) hr3 (hK _ _ hb3 hJ3 trivial)
    · intro f a w' hI hf hanc hdesc hle hs' hd K hK
      obtain ⟨_, t0, rfl⟩ := hd 0 15 (by kernel_rfl)
      unfold Go.Rel.stepOf
      go_simp
      exact hK _ _ (But.refl _ _) (hI.keep (j := 14) (t := 29) (by decide) (by decide) _) rfl
    · intro f a w' hI hf hanc hdesc hle hs' hd K hK
      obtain ⟨_, t14, rfl⟩ := hd 14 29 (by kernel_rfl)
      unfold Go.Rel.stepOf
      go_simp
      exact hK _ _ (But.refl _ _) (hI.keep (j := 15) (t := 30) (by decide) (by decide) _) rfl
    · intro f a w' hI hf hanc hdesc hle hs' hd K hK
      obtain ⟨_, t15, rfl⟩ := hd 15 30 (by kernel_rfl)
      obtain ⟨_, t13, _⟩ := hd 13 28 (by kernel_rfl)
      have zA : f 13 = true := hanc 60 13 (by kernel_rfl)
      have hbk := hI.blk hf
      have cB : w'.cell? ⟨nv.B, 33, none⟩ = some (x.ou) := (HBk.out.keep hbk).c33
      have fz : w'.frozen? ⟨nv.B, 33, none⟩ = false := (HBk.out.keep hbk).fz 33
      obtain ⟨A9, c9, e9, _⟩ := SK.of_row (poC_length s.own) (hI.app zA _ t13).1
      rw [List.length_append, List.length_singleton] at e9
      subst e9
      obtain ⟨hb3, hJ3⟩ := hI.store (by decide) zA hf HNe.out HBl.out t13 none rfl undef
      unfold Go.Rel.stepOf
      go_simp
      exact hK _ _ hb3 hJ3 trivial
  case he2 =>
    intro f a w2 hall hJ hle hs' hR'
    have HF2 := Lib.hid (hJ.fin (hall 16 (by decide)))
    have HB2 := Lib.hid hJ.but
    clear hJ hall hle
    obtain ⟨v15, s15, _⟩ := hR' 0 15 (by kernel_rfl)
    obtain ⟨v16, s16, _⟩ := hR' 1 16 (by kernel_rfl)
    obtain ⟨v17, s17, _⟩ := hR' 2 17 (by kernel_rfl)
    obtain ⟨v18, s18, _⟩ := hR' 3 18 (by kernel_rfl)
    obtain ⟨v19, s19, _⟩ := hR' 4 19 (by kernel_rfl)
    obtain ⟨v20, s20, _⟩ := hR' 5 20 (by kernel_rfl)
    obtain ⟨v21, s21, _⟩ := hR' 6 21 (by kernel_rfl)
    obtain ⟨v22, s22, _⟩ := hR' 7 22 (by kernel_rfl)
    obtain ⟨v23, s23, _⟩ := hR' 8 23 (by kernel_rfl)
    obtain ⟨v24, s24, _⟩ := hR' 9 24 (by kernel_rfl)
    obtain ⟨v25, s25, _⟩ := hR' 10 25 (by kernel_rfl)
    obtain ⟨v26, s26, _⟩ := hR' 11 26 (by kernel_rfl)
    obtain ⟨v27, s27, _⟩ := hR' 12 27 (by kernel_rfl)
    obtain ⟨v28, s28, _⟩ := hR' 13 28 (by kernel_rfl)
    obtain ⟨v29, s29, _⟩ := hR' 14 29 (by kernel_rfl)
    obtain ⟨v30, s30, _⟩ := hR' 15 30 (by kernel_rfl)
    have e := hs'.shape
    simp only [List.toList_toArray, List.foldl, Go.Rel.reset, Array.getD_eq_getD_getElem?, s15, s16, s17, s18, s19, s20, s21, s22, s23, s24, s25, s26, s27, s28, s29, s30, Option.getD_some] at e
    simp at e
    clear hR' hs' s15 s16 s17 s18 s19 s20 s21 s22 s23 s24 s25 s26 s27 s28 s29 s30
    subst e
    obtain ⟨v2, hrow, hloc, hblk⟩ := HF2.out
    have HT : Hid (Then nv l W0 { s with out := s.out ++ [p] } w2) := Lib.hid (H.out.posted HB.out HBy.out HLen.out HL.out.1 HL.out.2 HB2.out hrow hloc (hblk _ _ _ HBk.out))
    clear hrow hloc hblk
    go_wp2
    go_end0
    exact ⟨rfl, HT.out⟩
theorem M1.new {l : Nat → Nat} {w : World} {y : sp.Mi} (hlt : ∀ k, l k ≠ 0 → k < w.heap.size) (hy : y.ok w) (hf : Fr l w y.us.A) : M1 l (w.alloc (.cells #[.int .i64 y.kind, .int .u32 (y.seq : Int), .int .i64 y.src, .int .i64 y.tgt, .bool y.rep, .slice y.us.A y.us.l.length y.us.c] 87)) w.heap.size y :=
  ⟨sp.MiB.new w y, hy.below (below1 _ _), fun e => Nat.lt_irrefl _ (hlt _ e.1), hf.size (below1 w _).size⟩
theorem M1.row {l : Nat → Nat} {w : World} {X : Nat} {y : sp.Mi} (h : M1 l w X y) : w.ownsRow 0 87 6 (.slice (some ⟨X, 0, none⟩) 1 1) 1 (sp.miC y) :=
  ⟨rfl, .inr ⟨X, 1, _, rfl, Nat.zero_le _, h.blk, Nat.le_refl _, by unfold maxLen; omega, rfl, rfl⟩⟩
theorem ride_append {l : Nat → Nat} {w : World} {X : Nat} {y : sp.Mi} {s : Sw} {u : Value} (h : M1 l w X y) (hu : RideV l w s u) (hlt : ∀ b, l b ≠ 0 → b < w.heap.size) (ty : TypeId) :
    ∃ v' w', (Builtin.append_ #[72, 72] ty #[.slice (some ⟨X, 0, none⟩) 1 1, u]).run Tryz.prog w = .ok v' w' ∧ Below w.heap.size w w' ∧ ∃ A n c lm, v' = .slice A n c ∧ MsF l w' A n c lm ∧ lm.map sp.Mi.m = y.m :: tellL s.own s.takes.1 := by
  rcases hu with ⟨h0, rfl⟩ | ⟨h0, Y, z, rfl, hz, e⟩
  · obtain ⟨i0, hi, hz0, hz1, hz2⟩ := info_parts sp.msg_info
    refine ⟨_, _, run_append_owned_none (P := Tryz.prog) (w := w) (ty := ty) 0 72 87 i0 6 Tryz.underlying72 hi _ 1 _ h.row, Below.refl _ _, _, _, _, [y], rfl, h.list, ?_⟩
    rw [h0]
    rfl
  · obtain ⟨v', w', hr, hb, A, c, e2, hM⟩ := append_two h hz hlt ty
    refine ⟨v', w', hr, hb, A, 2, c, [y, z], e2, hM, ?_⟩
    unfold tellL
    rw [if_neg h0, ← e]
    rfl
def seR (l : Nat → Nat) (s : Sw) (y : sp.Mi) (nv : Nv) (tg : Int) : Nat → Value → World → Prop
  | 0, v, _ => v = .pointer (some ⟨nv.B, 0, none⟩)
  | 1, v, _ => v = .int .i64 tg
  | 2, v, _ => v = .agg #[.int .i64 y.kind, .int .u32 (y.seq : Int), .int .i64 y.src, .int .i64 y.tgt, .bool y.rep, .slice y.us.A y.us.l.length y.us.c]
  | 3, v, w => ∃ X, v = .slice (some ⟨X, 0, none⟩) 1 1 ∧ M1 l w X y
  | 4, v, _ => v = .pointer (some ⟨nv.B, 0, none⟩)
  | 5, v, w => RideV l w s v
  | 6, v, w => ∃ A n c lm, v = .slice A n c ∧ MsF l w A n c lm ∧ lm.map sp.Mi.m = y.m :: tellL s.own s.takes.1
  | 7, v, w => True
  | _, _, _ => True
theorem seR_stable (l : Nat → Nat) (s : Sw) (y : sp.Mi) (nv : Nv) (tg : Int) : ∀ i v w w', seR l s y nv tg i v w → But (Mu l) w w' → seR l s y nv tg i v w'
  | 0, _, _, _, h, _ | 1, _, _, _, h, _ | 2, _, _, _, h, _ | 4, _, _, _, h, _ => h
  | 3, _, _, _, h, g => by obtain ⟨X, e, h⟩ := h; exact ⟨X, e, h.but g⟩
  | 5, _, _, _, h, g => h.but g
  | 6, _, _, _, h, g => by obtain ⟨A, n, c, lm, e, h, e2⟩ := h; exact ⟨A, n, c, lm, e, h.but g, e2⟩
  | 7, _, _, _, h, g => trivial
  | _ + 8, _, _, _, h, _ => h
set_option maxHeartbeats 8000000 in
set_option maxRecDepth 100000 in
theorem send_any {nv : Nv} {l : Nat → Nat} {W0 : World} {s : Sw} {x : Nc} (h : NdX nv l W0 s x) (hb : s.Base) (tg : Int) (ht : isNode tg) (y : sp.Mi) (hy : y.ok W0) (hf : Fr l W0 y.us.A) (hm : y.m.Ok ∧ y.m.wide ∧ y.m.us.length ≤ 8) (hlen : s.out.length ≤ 1000000) :
    Calls Tryz.prog 89 #[.pointer (some ⟨nv.B, 0, none⟩), .int .i64 tg, .agg #[.int .i64 y.kind, .int .u32 (y.seq : Int), .int .i64 y.src, .int .i64 y.tgt, .bool y.rep, .slice y.us.A y.us.l.length y.us.c]] W0 fun e w' => e = .returned (.tuple #[]) ∧ Then nv l W0 (s.send tg y.m) w' := by
  have hpk : (⟨tg, y.m :: tellL s.own s.takes.1⟩ : Pkt).Ok := (hb.send ht hm).out _ (by unfold Sw.send; simp)
  have b1 := below1 W0 (.cells #[.int .i64 y.kind, .int .u32 (y.seq : Int), .int .i64 y.src, .int .i64 y.tgt, .bool y.rep, .slice y.us.A y.us.l.length y.us.c] 87)
  have k1 := heap_alloc_new W0 (.cells #[.int .i64 y.kind, .int .u32 (y.seq : Int), .int .i64 y.src, .int .i64 y.tgt, .bool y.rep, .slice y.us.A y.us.l.length y.us.c] 87)
  obtain ⟨W1, hW1⟩ : ∃ W1, W0.alloc (.cells #[.int .i64 y.kind, .int .u32 (y.seq : Int), .int .i64 y.src, .int .i64 y.tgt, .bool y.rep, .slice y.us.A y.us.l.length y.us.c] 87) = W1 := ⟨_, rfl⟩
  rw [hW1] at b1 k1
  have h1 := h.below b1
  have HXf : Hid (¬ mutl (l W0.heap.size)) := Lib.hid (fun e => Nat.lt_irrefl _ (h.lt _ e.1))
  obtain ⟨X, hX⟩ : ∃ X, W0.heap.size = X := ⟨_, rfl⟩
  rw [hX] at k1 HXf
  have HX := Lib.hid hX
  have HW1 := Lib.hid hW1
  have HXb := Lib.hid k1
  have HXl := Lib.hid (block_lt k1)
  have HB1 := Lib.hid b1
  have HLt := Lib.hid h1.lt
  have HY := Lib.hid (hy.below b1)
  have HFr := Lib.hid (hf.size b1.size)
  have HMq : Hid (∀ k, (k = nv.Bq ∨ k = nv.Mq) → mutl (l k)) := Lib.hid (fun k e => by rcases e with e | e <;> rw [e]; rw [h.q.lB]; exact ⟨by decide, by decide⟩; rw [h.q.lM]; exact ⟨by decide, by decide⟩)
  have HRide := Lib.hid (fun W (hw : Below W1.heap.size W1 W) => riding_any (h1.below hw) hb)
  have HPost := Lib.hid (fun W (hn : NdX nv l W { s with q := s.takes.2 } x) A n c lm (h6 : MsF l W A n c lm) e6 => post_any hn (⟨tg, y.m :: tellL s.own s.takes.1⟩ : Pkt) hpk A n c lm h6 e6 hlen)
  have HA : Hid (∀ w w', (NdX nv l w { s with q := s.takes.2 } x ∧ But (Mu l) W1 w) → Below w.heap.size w w' → NdX nv l w' { s with q := s.takes.2 } x ∧ But (Mu l) W1 w') := Lib.hid (fun w w' h hb => ⟨h.1.below hb, h.2.trans (But.of_below hb)⟩)
  have HAb : Hid (∀ w, (NdX nv l w { s with q := s.takes.2 } x ∧ But (Mu l) W1 w) → But (Mu l) W1 w) := Lib.hid (fun w h => h.2)
  have HDr : Hid (But (Mu l) W1 { W1 with drawn := W1.drawn + 1 }) := Lib.hid ((But.refl _ _).drew)
  clear h hb h1 ht hy hf hm hlen hpk b1 k1 hW1 hX
  go_enter Tryz.func89, Tryz.ntmps89
  go_wp2
  rw [HW1.out, HX.out]
  refine Go.Rel.wp_region_states (by kernel_rfl) (by kernel_rfl) (by kernel_rfl) (by kernel_rfl) (TI2 5 7 W1 (fun w => NdX nv l w { s with q := s.takes.2 } x ∧ But (Mu l) W1 w) (fun w => Then nv l W1 (s.send tg y.m) w)) (But (Mu l)) (fun _ _ _ h k => h.trans k) HDr.out TI2.start (seR l s y nv tg) (seR_stable l s y nv tg) ?hs ?he
  case hs =>
    refine (.cons ?_ (.cons ?_ (.cons ?_ (.cons ?_ (.cons ?_ (.cons ?_ (.cons ?_ (.cons ?_ .nil))))))))
    · intro f a w' hI hf hanc hdesc hle hs' hd K hK
      have f0 : a.tmps[0]? = some (.pointer (some ⟨nv.B, 0, none⟩)) := hs'.2.2 0 (by kernel_rfl)
      unfold Go.Rel.stepOf
      go_simp
      exact hK _ _ (But.refl _ _) (hI.read (j := 0) (by decide)) rfl
    · intro f a w' hI hf hanc hdesc hle hs' hd K hK
      have f1 : a.tmps[1]? = some (.int .i64 tg) := hs'.2.2 1 (by kernel_rfl)
      unfold Go.Rel.stepOf
      go_simp
      exact hK _ _ (But.refl _ _) (hI.read (j := 1) (by decide)) rfl
    · intro f a w' hI hf hanc hdesc hle hs' hd K hK
      have f5 : a.tmps[5]? = some (.pointer (some ⟨X, 0, none⟩)) := hs'.2.2 5 (by kernel_rfl)
      have zL : f 7 = false := hdesc 60 7 (by kernel_rfl)
      obtain ⟨b0, b1, b2, b3, b4, b5⟩ := sp.blk6 ((hI.but zL HAb.out).block X HXl.out HXf.out |>.trans HXb.out)
      unfold Go.Rel.stepOf
      go_simp
      exact hK _ _ (But.refl _ _) (hI.read (j := 2) (by decide)) rfl
    · intro f a w' hI hf hanc hdesc hle hs' hd K hK
      obtain ⟨_, t2, rfl⟩ := hd 2 8 (by kernel_rfl)
      have zL : f 7 = false := hdesc 60 7 (by kernel_rfl)
      have hbt := hI.but zL HAb.out
      unfold Go.Rel.stepOf
      go_simp
      exact hK _ _ (But.of_below (below1 _ _)) (hI.below zL (below1 _ _) HA.out (by decide)) ⟨_, rfl, M1.new (fun k hk => Nat.lt_of_lt_of_le (HLt.out k hk) hbt.size) ⟨UsOk.butF HY.out.1 hbt HFr.out, HY.out.2⟩ (HFr.out.size hbt.size)⟩
    · intro f a w' hI hf hanc hdesc hle hs' hd K hK
      have f0 : a.tmps[0]? = some (.pointer (some ⟨nv.B, 0, none⟩)) := hs'.2.2 0 (by kernel_rfl)
      unfold Go.Rel.stepOf
      go_simp
      exact hK _ _ (But.refl _ _) (hI.read (j := 4) (by decide)) rfl
    · intro f a w' hI hf hanc hdesc hle hs' hd K hK
      obtain ⟨_, t4, rfl⟩ := hd 4 10 (by kernel_rfl)
      have zL : f 7 = false := hdesc 60 7 (by kernel_rfl)
      unfold Go.Rel.stepOf
      go_simp
      refine (HRide.out w' (hI.ahead hf)).mono ?_
      rintro e w2 ⟨vt, rfl, hv, hnd, hbq⟩
      exact hK _ _ (hbq.mono HMq.out) (hI.first zL (by decide) ⟨hnd, (But.of_below (hI.ahead hf)).trans (hbq.mono HMq.out)⟩) hv
    · intro f a w' hI hf hanc hdesc hle hs' hd K hK
      obtain ⟨_, t3, X3, rfl, h3⟩ := hd 3 9 (by kernel_rfl)
      obtain ⟨_, t5, h5⟩ := hd 5 11 (by kernel_rfl)
      have zL : f 7 = false := hdesc 60 7 (by kernel_rfl)
      have hbt := hI.but zL HAb.out
      obtain ⟨v9, w9, hr9, hb9, h9⟩ := ride_append h3 h5 (fun k hk => Nat.lt_of_lt_of_le (HLt.out k hk) hbt.size) 72
      exact acc_stepOf_append (.tmp 9) (.tmp 11) 72 rfl rfl (by simp [Act.eval, t3]) (by simp [Act.eval, t5]) hr9 (hK _ _ (But.of_below hb9) (hI.below zL hb9 HA.out (by decide)) h9)
    · intro f a w' hI hf hanc hdesc hle hs' hd K hK
      obtain ⟨_, t0, rfl⟩ := hd 0 6 (by kernel_rfl)
      obtain ⟨_, t1, rfl⟩ := hd 1 7 (by kernel_rfl)
      obtain ⟨_, t6, A6, n6, c6, lm6, rfl, h6, e6⟩ := hd 6 12 (by kernel_rfl)
      have zr : f 5 = true := hanc 60 5 (by kernel_rfl)
      unfold Go.Rel.stepOf
      go_simp
      refine (HPost.out w' (hI.mid zr hf).1 A6 n6 c6 lm6 h6 e6).mono ?_
      rintro e w2 ⟨rfl, l2, hn2, hg2⟩
      exact hK _ _ hg2.but (TI2.last zr (by decide) ⟨l2, hn2, (show Goes l l W1 w' from ⟨(hI.mid zr hf).2, fun _ _ => ⟨id, id⟩⟩).trans hg2⟩) trivial
  case he =>
    intro f a w5 hall hJ hle hs' hR'
    have HT := Lib.hid (hJ.done_ (hall 7 (by decide)))
    clear hJ hall hle
    obtain ⟨v6, s6, _⟩ := hR' 0 6 (by kernel_rfl)
    obtain ⟨v7, s7, _⟩ := hR' 1 7 (by kernel_rfl)
    obtain ⟨v8, s8, _⟩ := hR' 2 8 (by kernel_rfl)
    obtain ⟨v9, s9, _⟩ := hR' 3 9 (by kernel_rfl)
    obtain ⟨v10, s10, _⟩ := hR' 4 10 (by kernel_rfl)
    obtain ⟨v11, s11, _⟩ := hR' 5 11 (by kernel_rfl)
    obtain ⟨v12, s12, _⟩ := hR' 6 12 (by kernel_rfl)
    obtain ⟨v13, s13, _⟩ := hR' 7 13 (by kernel_rfl)
    have e := hs'.shape
    simp only [List.toList_toArray, List.foldl, Go.Rel.reset, Array.getD_eq_getD_getElem?, s6, s7, s8, s9, s10, s11, s12, s13, Option.getD_some] at e
    simp at e
    clear hR' hs' s6 s7 s8 s9 s10 s11 s12 s13
    subst e
    have HT2 : Hid (Then nv l W0 (s.send tg y.m) w5) := Lib.hid (Then.ahead HB1.out HT.out)
    go_wp2
    go_end0
    exact ⟨rfl, HT2.out⟩
end Go.Proofs.YtaicipldjmngaaaGreatDoor.sw

namespace Go.Proofs.YtaicipldjmngaaaGreatDoor.dr
end Go.Proofs.YtaicipldjmngaaaGreatDoor.dr
namespace Go.Proofs.YtaicipldjmngaaaGreatDoor.wh
end Go.Proofs.YtaicipldjmngaaaGreatDoor.wh
namespace Go.Proofs.YtaicipldjmngaaaGreatDoor.ro
end Go.Proofs.YtaicipldjmngaaaGreatDoor.ro
namespace Go.Proofs.YtaicipldjmngaaaGreatDoor.ru
end Go.Proofs.YtaicipldjmngaaaGreatDoor.ru
namespace Go.Proofs.YtaicipldjmngaaaGreatDoor.db
end Go.Proofs.YtaicipldjmngaaaGreatDoor.db
namespace Go.Proofs.YtaicipldjmngaaaGreatDoor.pr
end Go.Proofs.YtaicipldjmngaaaGreatDoor.pr
namespace Go.Proofs.YtaicipldjmngaaaGreatDoor.sp
end Go.Proofs.YtaicipldjmngaaaGreatDoor.sp
namespace Go.Proofs.YtaicipldjmngaaaGreatDoor.sw
open Go.Proofs.YtaicipldjmngaaaGreatDoor.dr Go.Proofs.YtaicipldjmngaaaGreatDoor.wh Go.Proofs.YtaicipldjmngaaaGreatDoor.ro Go.Proofs.YtaicipldjmngaaaGreatDoor.ru Go.Proofs.YtaicipldjmngaaaGreatDoor.db Go.Proofs.YtaicipldjmngaaaGreatDoor.pr Go.Proofs.YtaicipldjmngaaaGreatDoor.sp
open Go.RowKit
set_option linter.unusedVariables false
set_option linter.unusedSimpArgs false
def stR (S : Nat → Prop) (nv : Nv) (W0 : World) (s : Sw) (us : List Up) (tg : Int) (r : Bool) : Nat → Value → World → Prop
  | 0, v, _ => v = .pointer (some ⟨nv.B, 0, none⟩)
  | 1, v, _ => v = .int .i64 tg
  | 2, v, _ => v = .pointer (some ⟨nv.B, 0, none⟩)
  | 3, v, _ => v = .pointer (some ⟨nv.B, 0, none⟩)
  | 4, v, _ => v = .pointer (some ⟨nv.B, 11, none⟩)
  | 5, v, _ => v = .int .i64 s.own
  | 6, v, _ => v = .bool r
  | 7, v, _ => v = .pointer (some ⟨nv.B, 0, none⟩)
  | 8, v, _ => v = .pointer (some ⟨nv.B, 0, none⟩)
  | 9, v, _ => v = .pointer (some ⟨nv.B, 12, none⟩)
  | 10, v, _ => v = .pointer (some ⟨nv.B, 12, none⟩)
  | 11, v, _ => v = .pointer (some ⟨nv.Br, 0, none⟩)
  | 12, v, w => ∃ A c, v = .slice A us.length c ∧ upRow w W0.heap.size (.slice A us.length c) us
  | 13, v, w => ∃ A c, v = .agg #[.int .i64 6, .int .u32 0, .int .i64 s.own, .int .i64 0, .bool r, .slice A us.length c] ∧ upRow w W0.heap.size (.slice A us.length c) us
  | 14, v, w => True
  | _, _, _ => True
theorem stR_stable (nv : Nv) (W0 : World) (s : Sw) (us : List Up) (tg : Int) (r : Bool) : ∀ i v w w', stR (OldB W0) nv W0 s us tg r i v w → But (OldB W0) w w' → stR (OldB W0) nv W0 s us tg r i v w'
  | 0, _, _, _, h, _ | 1, _, _, _, h, _ | 2, _, _, _, h, _ | 3, _, _, _, h, _ | 4, _, _, _, h, _ | 5, _, _, _, h, _ | 6, _, _, _, h, _ | 7, _, _, _, h, _ | 8, _, _, _, h, _ | 9, _, _, _, h, _ | 10, _, _, _, h, _ | 11, _, _, _, h, _ => h
  | 12, _, _, _, h, g => by obtain ⟨A, c, e, h⟩ := h; exact ⟨A, c, e, own_old h g⟩
  | 13, _, _, _, h, g => by obtain ⟨A, c, e, h⟩ := h; exact ⟨A, c, e, own_old h g⟩
  | 14, _, _, _, h, g => trivial
  | _ + 15, _, _, _, h, _ => h
set_option maxHeartbeats 8000000 in
set_option maxRecDepth 100000 in
theorem sendTables_any {nv : Nv} {l : Nat → Nat} {W0 : World} {s : Sw} {x : Nc} (h : NdX nv l W0 s x) (hb : s.Base) (tg : Int) (ht : isNode tg) (r : Bool) (hlen : s.out.length ≤ 1000000) :
    Calls Tryz.prog 49 #[.pointer (some ⟨nv.B, 0, none⟩), .int .i64 tg, .bool r] W0 fun e w' => e = .returned (.tuple #[]) ∧ Then nv l W0 (s.send tg (s.tables r)) w' := by
  have HC := Lib.hid (fun W (hw : Below W0.heap.size W0 W) => (h.below hw).n.blk)
  obtain ⟨n, hn, hr⟩ := h.r.at_
  have hv : ro.listTo s.ro.T 8 = s.view := rfl
  have HList0 := fun W (hw : Below W0.heap.size W0 W) => ro.list_new W (hr.below hw)
  rw [hv] at HList0
  obtain ⟨us, hus⟩ : ∃ us, s.view = us := ⟨_, rfl⟩
  rw [hus] at HList0
  have HList := Lib.hid HList0
  have hw8 := view_len s
  have hSend : ∀ W (hw : Below W0.heap.size W0 W) A c (hr : upRow W W0.heap.size (.slice A us.length c) us), Calls Tryz.prog 89 #[.pointer (some ⟨nv.B, 0, none⟩), .int .i64 tg, .agg #[.int .i64 6, .int .u32 0, .int .i64 s.own, .int .i64 0, .bool r, .slice A us.length c]] W fun e w' => e = .returned (.tuple #[]) ∧ Then nv l W (s.send tg (s.tables r)) w' := fun W hw A c hr => by
    obtain ⟨_, h1, h2⟩ := upRow.mi hr
    have hA : ∀ b off, A = some ⟨b, off, none⟩ → b < W.heap.size := fun b off e => by
      rcases hr.2 with ⟨e', _⟩ | ⟨g, _, _, e', _, hh, _⟩
      · simp only [Value.slice.injEq] at e'; rw [e'.1] at e; cases e
      · simp only [Value.slice.injEq] at e'; rw [e'.1] at e
        simp only [Option.some.injEq, Addr.mk.injEq] at e
        rw [← e.1]
        exact block_lt hh
    have hm := hb.tables_ok r
    have e : s.tables r = (⟨6, 0, s.own, 0, r, ⟨A, c, us⟩⟩ : sp.Mi).m := by unfold Sw.tables; rw [hus]; rfl
    rw [e] at hm ⊢
    exact send_any (h.below hw) hb tg ht ⟨6, 0, s.own, 0, r, ⟨A, c, us⟩⟩ ⟨h1, hm.2.1⟩ (fun b off e => ⟨hA b off e, fun e2 => by have := h2 b off e; have := h.lt b e2.1; omega⟩) hm hlen
  have HSend := Lib.hid hSend
  have HMu : Hid (∀ k, mutl (l k) → k < W0.heap.size) := Lib.hid (fun k e => h.lt k e.1)
  clear h hb ht hlen hn hr hv HList0 hw8 hSend hus
  go_enter Tryz.func49, Tryz.ntmps49
  go_wp2
  refine Go.Rel.wp_region_states (by kernel_rfl) (by kernel_rfl) (by kernel_rfl) (by kernel_rfl) (TI 14 W0 (fun W => Then nv l W0 (s.send tg (s.tables r)) W)) (But (OldB W0)) (fun _ _ _ h k => h.trans k) OldB.drew TI.start (stR (OldB W0) nv W0 s us tg r) (stR_stable nv W0 s us tg r) ?hs1 ?he1
  case hs1 =>
    refine (.cons ?_ (.cons ?_ (.cons ?_ (.cons ?_ (.cons ?_ (.cons ?_ (.cons ?_ (.cons ?_ (.cons ?_ (.cons ?_ (.cons ?_ (.cons ?_ (.cons ?_ (.cons ?_ (.cons ?_ .nil)))))))))))))))
    · intro f a w' hI hf hanc hdesc hle hs' hd K hK
      have f0 : a.tmps[0]? = some (.pointer (some ⟨nv.B, 0, none⟩)) := hs'.2.2 0 (by kernel_rfl)
      unfold Go.Rel.stepOf
      go_simp
      exact hK _ _ (But.refl _ _) (hI.read (j := 0) (by decide)) rfl
    · intro f a w' hI hf hanc hdesc hle hs' hd K hK
      have f1 : a.tmps[1]? = some (.int .i64 tg) := hs'.2.2 1 (by kernel_rfl)
      unfold Go.Rel.stepOf
      go_simp
      exact hK _ _ (But.refl _ _) (hI.read (j := 1) (by decide)) rfl
    · intro f a w' hI hf hanc hdesc hle hs' hd K hK
      have f0 : a.tmps[0]? = some (.pointer (some ⟨nv.B, 0, none⟩)) := hs'.2.2 0 (by kernel_rfl)
      unfold Go.Rel.stepOf
      go_simp
      exact hK _ _ (But.refl _ _) (hI.read (j := 2) (by decide)) rfl
    · intro f a w' hI hf hanc hdesc hle hs' hd K hK
      obtain ⟨_, t2, rfl⟩ := hd 2 8 (by kernel_rfl)
      unfold Go.Rel.stepOf
      go_simp
      exact hK _ _ (But.refl _ _) (hI.read (j := 3) (by decide)) rfl
    · intro f a w' hI hf hanc hdesc hle hs' hd K hK
      obtain ⟨_, t3, rfl⟩ := hd 3 9 (by kernel_rfl)
      unfold Go.Rel.stepOf
      go_simp
      exact hK _ _ (But.refl _ _) (hI.read (j := 4) (by decide)) rfl
    · intro f a w' hI hf hanc hdesc hle hs' hd K hK
      obtain ⟨_, t4, rfl⟩ := hd 4 10 (by kernel_rfl)
      have zL : f 14 = false := hdesc 60 14 (by kernel_rfl)
      have cc := (HC.out w' (hI.ahead zL)).c11
      unfold Go.Rel.stepOf
      go_simp
      exact hK _ _ (But.refl _ _) (hI.read (j := 5) (by decide)) rfl
    · intro f a w' hI hf hanc hdesc hle hs' hd K hK
      have f2 : a.tmps[2]? = some (.bool r) := hs'.2.2 2 (by kernel_rfl)
      unfold Go.Rel.stepOf
      go_simp
      exact hK _ _ (But.refl _ _) (hI.read (j := 6) (by decide)) rfl
    · intro f a w' hI hf hanc hdesc hle hs' hd K hK
      have f0 : a.tmps[0]? = some (.pointer (some ⟨nv.B, 0, none⟩)) := hs'.2.2 0 (by kernel_rfl)
      unfold Go.Rel.stepOf
      go_simp
      exact hK _ _ (But.refl _ _) (hI.read (j := 7) (by decide)) rfl
    · intro f a w' hI hf hanc hdesc hle hs' hd K hK
      obtain ⟨_, t7, rfl⟩ := hd 7 13 (by kernel_rfl)
      unfold Go.Rel.stepOf
      go_simp
      exact hK _ _ (But.refl _ _) (hI.read (j := 8) (by decide)) rfl
    · intro f a w' hI hf hanc hdesc hle hs' hd K hK
      obtain ⟨_, t8, rfl⟩ := hd 8 14 (by kernel_rfl)
      unfold Go.Rel.stepOf
      go_simp
      exact hK _ _ (But.refl _ _) (hI.read (j := 9) (by decide)) rfl
    · intro f a w' hI hf hanc hdesc hle hs' hd K hK
      obtain ⟨_, t9, rfl⟩ := hd 9 15 (by kernel_rfl)
      unfold Go.Rel.stepOf
      go_simp
      exact hK _ _ (But.refl _ _) (hI.read (j := 10) (by decide)) rfl
    · intro f a w' hI hf hanc hdesc hle hs' hd K hK
      obtain ⟨_, t10, rfl⟩ := hd 10 16 (by kernel_rfl)
      have zL : f 14 = false := hdesc 60 14 (by kernel_rfl)
      have cc := (HC.out w' (hI.ahead zL)).c12
      unfold Go.Rel.stepOf
      go_simp
      exact hK _ _ (But.refl _ _) (hI.read (j := 11) (by decide)) rfl
    · intro f a w' hI hf hanc hdesc hle hs' hd K hK
      obtain ⟨_, t11, rfl⟩ := hd 11 17 (by kernel_rfl)
      have zL : f 14 = false := hdesc 60 14 (by kernel_rfl)
      unfold Go.Rel.stepOf
      go_simp
      refine (HList.out w' (hI.ahead zL)).mono ?_
      rintro e w2 ⟨A5, c5, rfl, hr5, hb5⟩
      exact hK _ _ (But.of_below hb5) (hI.below zL hb5 (by decide)) ⟨_, _, rfl, bown_base hr5 (hI.ahead zL).size⟩
    · intro f a w' hI hf hanc hdesc hle hs' hd K hK
      obtain ⟨_, t5, rfl⟩ := hd 5 11 (by kernel_rfl)
      obtain ⟨_, t6, rfl⟩ := hd 6 12 (by kernel_rfl)
      obtain ⟨_, t12, A12, c12, rfl, h12⟩ := hd 12 18 (by kernel_rfl)
      have zL : f 14 = false := hdesc 60 14 (by kernel_rfl)
      unfold Go.Rel.stepOf
      go_simp
      exact hK _ _ (But.refl _ _) (hI.read (j := 13) (by decide)) ⟨_, _, rfl, h12⟩
    · intro f a w' hI hf hanc hdesc hle hs' hd K hK
      obtain ⟨_, t0, rfl⟩ := hd 0 6 (by kernel_rfl)
      obtain ⟨_, t1, rfl⟩ := hd 1 7 (by kernel_rfl)
      obtain ⟨_, t13, A13, c13, rfl, h13⟩ := hd 13 19 (by kernel_rfl)
      unfold Go.Rel.stepOf
      go_simp
      refine (HSend.out w' (hI.ahead hf) A13 c13 h13).mono ?_
      rintro e w2 ⟨rfl, hth⟩
      obtain ⟨l2, hn2, hg2⟩ := hth
      exact hK _ _ (But.oldB hg2.but HMu.out) (TI.last (Then.ahead (hI.ahead hf) ⟨l2, hn2, hg2⟩)) trivial
  case he1 =>
    intro f a w1 hall hJ hle hs' hR'
    have HP1 := Lib.hid (hJ.done_ (hall 14 (by decide)))
    clear hJ hall hle
    obtain ⟨v6, s6, _⟩ := hR' 0 6 (by kernel_rfl)
    obtain ⟨v7, s7, _⟩ := hR' 1 7 (by kernel_rfl)
    obtain ⟨v8, s8, _⟩ := hR' 2 8 (by kernel_rfl)
    obtain ⟨v9, s9, _⟩ := hR' 3 9 (by kernel_rfl)
    obtain ⟨v10, s10, _⟩ := hR' 4 10 (by kernel_rfl)
    obtain ⟨v11, s11, _⟩ := hR' 5 11 (by kernel_rfl)
    obtain ⟨v12, s12, _⟩ := hR' 6 12 (by kernel_rfl)
    obtain ⟨v13, s13, _⟩ := hR' 7 13 (by kernel_rfl)
    obtain ⟨v14, s14, _⟩ := hR' 8 14 (by kernel_rfl)
    obtain ⟨v15, s15, _⟩ := hR' 9 15 (by kernel_rfl)
    obtain ⟨v16, s16, _⟩ := hR' 10 16 (by kernel_rfl)
    obtain ⟨v17, s17, _⟩ := hR' 11 17 (by kernel_rfl)
    obtain ⟨v18, s18, _⟩ := hR' 12 18 (by kernel_rfl)
    obtain ⟨v19, s19, _⟩ := hR' 13 19 (by kernel_rfl)
    obtain ⟨v20, s20, _⟩ := hR' 14 20 (by kernel_rfl)
    have e := hs'.shape
    simp only [List.toList_toArray, List.foldl, Go.Rel.reset, Array.getD_eq_getD_getElem?, s6, s7, s8, s9, s10, s11, s12, s13, s14, s15, s16, s17, s18, s19, s20, Option.getD_some] at e
    simp at e
    clear hR' hs' s6 s7 s8 s9 s10 s11 s12 s13 s14 s15 s16 s17 s18 s19 s20
    subst e
    go_wp2
    go_end0
    exact ⟨rfl, HP1.out⟩
structure PkF (l : Nat → Nat) (w : World) (own : Int) (u : Value) (o : List Pkt) : Prop where
  row : ∃ L : List Po, L.map Po.pk = o ∧ rowK (poC own) TK 3 w 0 u L ∧ ∀ y ∈ L, RB w y.A y.pk.bytes.length y.pk.bytes ∧ (y.A = none → y.c = 0) ∧ y.pk.bytes.length ≤ y.c ∧ Fr l w y.A ∧ y.pk.bytes.length ≤ 1400
  fr : ∀ b, u.ownBlock = some b → b < w.heap.size ∧ ¬ mutl (l b)
theorem PkF.nil (l : Nat → Nat) (w : World) (own : Int) : PkF l w own (.slice none 0 0) [] := ⟨⟨[], rfl, rowK.nil _ _, (fun y hy => by cases hy)⟩, (fun b hb => by cases hb)⟩
theorem NdX.handed {nv : Nv} {l : Nat → Nat} {w : World} {s : Sw} {x : Nc} (h : NdX nv l w s x) : ∃ l', NdX nv l' (w.setCell ⟨nv.B, 33, none⟩ (.slice none 0 0)) s.flush { x with ou := .slice none 0 0 } ∧ Goes l l' w (w.setCell ⟨nv.B, 33, none⟩ (.slice none 0 0)) ∧ PkF l' (w.setCell ⟨nv.B, 33, none⟩ (.slice none 0 0)) s.own x.ou s.out := by
  have hb := But.setB w nv 33 (.slice none 0 0)
  have hblk := h.n.blk.setOu (.slice none 0 0)
  obtain ⟨W, hW⟩ : ∃ W, w.setCell ⟨nv.B, 33, none⟩ (.slice none 0 0) = W := ⟨_, rfl⟩
  rw [hW] at hb hblk ⊢
  obtain ⟨l', hl'⟩ : ∃ l' : Nat → Nat, l' = fun k => if l k = 10 then 5 else l k := ⟨_, rfl⟩
  have e1 : ∀ k, l k ≠ 10 → l' k = l k := fun k hk => by rw [hl']; exact if_neg hk
  have e2 : ∀ k, l k = 10 → l' k = 5 := fun k hk => by rw [hl']; exact if_pos hk
  have e0 : ∀ k, l' k ≠ 0 → l k ≠ 0 := fun k hk e => by rw [e1 k (by rw [e]; decide)] at hk; exact hk e
  have eu : ∀ k, mutl (l' k) → mutl (l k) := fun k hk => by
    by_cases e : l k = 10
    · rw [e2 k e] at hk; exact absurd rfl hk.2
    · rw [e1 k e] at hk; exact hk
  have hT : ∀ n, n ≠ 6 → ∀ k, k < w.heap.size → k = nv.B → l k ≠ n := fun n hn k _ e he => by rw [e, h.n.lB] at he; exact hn he.symm
  have hl : ∀ k, k < w.heap.size → l k = l k := fun _ _ => rfl
  have r1 := h.r.keep hb (hT 1 (by decide)) hl
  have q1 := h.q.keep hb (hT 2 (by decide)) hl
  have w1 := h.wh.keep hb (hT 3 (by decide)) hl
  have g1 := h.g.keep hb (fun k hk e => ⟨hT 4 (by decide) k hk e, hT 5 (by decide) k hk e⟩) hl
  have d1 := h.d.keep hb (fun k hk e => ⟨hT 7 (by decide) k hk e, by rw [e, h.n.lB]; decide⟩) hl
  have cu1 := h.n.cur.keep hb (hT 5 (by decide)) hl
  have re1 := fun k hk => (h.n.rel k hk).keep hb (hT 5 (by decide)) hl
  have ev1 := h.n.ev.keep hb (hT 9 (by decide)) hl
  have ou1 := h.n.out.keep hb (fun k hk e => ⟨hT 5 (by decide) k hk e, hT 10 (by decide) k hk e⟩) hl h.lt
  have hlt1 : ∀ k, l k ≠ 0 → k < W.heap.size := fun k hk => Nat.lt_of_lt_of_le (h.lt k hk) hb.size
  have hsame : ∀ n k, n ≠ 10 → l k = n → l' k = n := fun n k hn e => by rw [e1 k (by rw [e]; exact hn)]; exact e
  refine ⟨l', ⟨fun k hk => hlt1 k (e0 k hk), ⟨hsame 1 _ (by decide) r1.lB, hsame 1 _ (by decide) r1.lM, r1.at_⟩, ⟨hsame 2 _ (by decide) q1.lB, hsame 2 _ (by decide) q1.lM, q1.at_⟩, ⟨w1.at_.mono (fun k _ e => hsame 3 k (by decide) e)⟩, ?_, ?_, ?_⟩, ⟨hb.mono (fun k e => by rw [e, h.n.lB]; exact ⟨by decide, by decide⟩), fun k hk => ⟨eu k, e0 k⟩⟩, ?_⟩
  · have hS : ∀ k, k < W.heap.size → Sg l' W k → Sg l W k := fun k hk e => ⟨hk, fun e5 => e.2 (hsame 5 k (by decide) e5)⟩
    have m1 : l' nv.Bg = 4 := hsame 4 _ (by decide) g1.lB
    have m2 : l' nv.Bd = 4 := hsame 4 _ (by decide) g1.lD
    refine ⟨m1, m2, g1.ne, g1.ring.narrow hS ⟨g1.ring.lt, by rw [m1]; decide⟩, g1.draw.narrow hS (fun k hk => ?_)⟩
    rw [← tgt_ptr.1 hk]
    exact ⟨g1.draw.lt _ (tgt_ptr.2 rfl), by rw [m2]; decide⟩
  · obtain ⟨m, cn, hcn, hm1, hm2⟩ := d1.at_
    refine ⟨hsame 7 _ (by decide) d1.lM, m, cn, hcn, hm1, fun n hn => (hm2 n hn).imp id (fun ⟨p, y, a1, a2, a3, b, m', a4, a5, a6, a7⟩ => ⟨p, y, a1, a2, a3, b, m', a4, a5, hsame _ _ (by omega) a6, hsame _ _ (by omega) a7⟩)⟩
  · refine ⟨hsame 6 _ (by decide) h.n.lB, hblk, h.n.seq, h.n.last, h.n.st, ?_, fun k hk => ?_, ⟨ev1.row, fun b hb => hsame 9 _ (by decide) (ev1.lab b hb)⟩, ⟨⟨[], rfl, rowK.nil _ _, (fun y hy => by cases hy)⟩, (fun b hb => by cases hb)⟩⟩
    · show CurAt l' W s.cur x.cur
      revert cu1
      cases s.cur <;> cases x.cur
      · exact fun h => h
      · exact fun h => h
      · exact fun h => h
      · exact fun h => ⟨hsame 5 _ (by decide) h.1, h.2⟩
    · show RelAt l' W (s.rel k) (x.rel k)
      have := re1 k hk
      revert this
      cases s.rel k <;> cases x.rel k
      · exact fun h => h
      · exact fun h => h
      · exact fun h => h
      · exact fun h => ⟨hsame 5 _ (by decide) h.1, h.2⟩
  · obtain ⟨L, a1, a2, a3⟩ := ou1.row
    refine ⟨⟨L, a1, a2, fun y hy => ?_⟩, fun b hb => ?_⟩
    · have k := a3 y hy
      exact ⟨k.rb, k.nil, k.le, fun b off e => ⟨hlt1 b (by rw [k.lab b off e]; decide), fun e3 => by rw [hsame 5 b (by decide) (k.lab b off e)] at e3; exact e3.2 rfl⟩, k.short⟩
    · have h10 := ou1.lab b hb
      exact ⟨hlt1 b (by rw [h10]; decide), fun e3 => by rw [e2 b h10] at e3; exact e3.2 rfl⟩
set_option maxHeartbeats 8000000 in
set_option maxRecDepth 100000 in
theorem sent_any {nv : Nv} {l : Nat → Nat} {W0 : World} {s : Sw} {x : Nc} (h : NdX nv l W0 s x) :
    Calls Tryz.prog 47 #[.pointer (some ⟨nv.B, 0, none⟩)] W0 fun e w' => ∃ u l', e = .returned u ∧ Nd nv l' w' s.flush ∧ Goes l l' W0 w' ∧ PkF l' w' s.own u s.out := by
  have c33 := h.n.blk.c33
  have f33 := h.n.blk.fz 33
  have HH := Lib.hid h.handed
  obtain ⟨L, h1, h2, _⟩ := h.n.out.row
  obtain ⟨A, c, e, _⟩ := SK.of_row (poC_length s.own) h2
  rw [e] at c33 HH
  obtain ⟨m, hm⟩ : ∃ m, L.length = m := ⟨_, rfl⟩
  rw [hm] at c33 HH
  clear h h1 h2 e hm
  go_enter Tryz.func47, Tryz.ntmps47
  go_wp2
  go_ret
  obtain ⟨l', k1, k2, k3⟩ := HH.out
  exact ⟨_, l', rfl, ⟨_, k1⟩, k2, k3⟩
end Go.Proofs.YtaicipldjmngaaaGreatDoor.sw

namespace Go.Proofs.YtaicipldjmngaaaGreatDoor.dr
end Go.Proofs.YtaicipldjmngaaaGreatDoor.dr
namespace Go.Proofs.YtaicipldjmngaaaGreatDoor.wh
end Go.Proofs.YtaicipldjmngaaaGreatDoor.wh
namespace Go.Proofs.YtaicipldjmngaaaGreatDoor.ro
end Go.Proofs.YtaicipldjmngaaaGreatDoor.ro
namespace Go.Proofs.YtaicipldjmngaaaGreatDoor.ru
end Go.Proofs.YtaicipldjmngaaaGreatDoor.ru
namespace Go.Proofs.YtaicipldjmngaaaGreatDoor.db
end Go.Proofs.YtaicipldjmngaaaGreatDoor.db
namespace Go.Proofs.YtaicipldjmngaaaGreatDoor.pr
end Go.Proofs.YtaicipldjmngaaaGreatDoor.pr
namespace Go.Proofs.YtaicipldjmngaaaGreatDoor.sp
end Go.Proofs.YtaicipldjmngaaaGreatDoor.sp
namespace Go.Proofs.YtaicipldjmngaaaGreatDoor.sw
open Go.Proofs.YtaicipldjmngaaaGreatDoor.dr Go.Proofs.YtaicipldjmngaaaGreatDoor.wh Go.Proofs.YtaicipldjmngaaaGreatDoor.ro Go.Proofs.YtaicipldjmngaaaGreatDoor.ru Go.Proofs.YtaicipldjmngaaaGreatDoor.db Go.Proofs.YtaicipldjmngaaaGreatDoor.pr Go.Proofs.YtaicipldjmngaaaGreatDoor.sp
open Go.RowKit
set_option linter.unusedVariables false
set_option linter.unusedSimpArgs false
theorem Then.step {v : Nv} {l l' : Nat → Nat} {w w1 w2 w' : World} {s' : Sw} (g : Goes l l' w w1) (hb : Below w1.heap.size w1 w2) (h : Then v l' w2 s' w') : Then v l w s' w' := by
  obtain ⟨l2, h1, h2⟩ := h
  exact ⟨l2, h1, (g.trans (Goes.below hb)).trans h2⟩
end Go.Proofs.YtaicipldjmngaaaGreatDoor.sw

namespace Go.Proofs.YtaicipldjmngaaaGreatDoor.dr
end Go.Proofs.YtaicipldjmngaaaGreatDoor.dr
namespace Go.Proofs.YtaicipldjmngaaaGreatDoor.wh
end Go.Proofs.YtaicipldjmngaaaGreatDoor.wh
namespace Go.Proofs.YtaicipldjmngaaaGreatDoor.ro
end Go.Proofs.YtaicipldjmngaaaGreatDoor.ro
namespace Go.Proofs.YtaicipldjmngaaaGreatDoor.ru
end Go.Proofs.YtaicipldjmngaaaGreatDoor.ru
namespace Go.Proofs.YtaicipldjmngaaaGreatDoor.db
end Go.Proofs.YtaicipldjmngaaaGreatDoor.db
namespace Go.Proofs.YtaicipldjmngaaaGreatDoor.pr
end Go.Proofs.YtaicipldjmngaaaGreatDoor.pr
namespace Go.Proofs.YtaicipldjmngaaaGreatDoor.sp
end Go.Proofs.YtaicipldjmngaaaGreatDoor.sp
namespace Go.Proofs.YtaicipldjmngaaaGreatDoor.sw
open Go.Proofs.YtaicipldjmngaaaGreatDoor.dr Go.Proofs.YtaicipldjmngaaaGreatDoor.wh Go.Proofs.YtaicipldjmngaaaGreatDoor.ro Go.Proofs.YtaicipldjmngaaaGreatDoor.ru Go.Proofs.YtaicipldjmngaaaGreatDoor.db Go.Proofs.YtaicipldjmngaaaGreatDoor.pr Go.Proofs.YtaicipldjmngaaaGreatDoor.sp
open Go.RowKit
set_option linter.unusedVariables false
set_option linter.unusedSimpArgs false
def CallPost (nv : Nv) (l : Nat → Nat) (W0 : World) (s : Sw) (r : Sw × List Pkt) (e : Ending) (w' : World) : Prop := ∃ u l', e = .returned u ∧ Nd nv l' w' r.1 ∧ Goes l l' W0 w' ∧ PkF l' w' s.own u r.2
theorem CallPost.none {nv : Nv} {l : Nat → Nat} {W0 w' : World} {s : Sw} {x : Nc} (h : NdX nv l W0 s x) (hb : Below W0.heap.size W0 w') : CallPost nv l W0 s (s, []) (.returned (.slice none 0 0)) w' := ⟨_, l, rfl, ⟨x, h.below hb⟩, Goes.below hb, PkF.nil _ _ _⟩
set_option maxHeartbeats 8000000 in
set_option maxRecDepth 100000 in
theorem View_any {nv : Nv} {l : Nat → Nat} {W0 : World} {s : Sw} {x : Nc} (h : NdX nv l W0 s x) : Calls Tryz.prog 19 #[.pointer (some ⟨nv.B, 0, none⟩)] W0 (ro.UpsNew W0 s.view) := by
  have HM := Lib.hid (made_yes h)
  have c12 := h.n.blk.c12
  obtain ⟨n, hn, hr⟩ := h.r.at_
  have HL0 := ro.list_new W0 hr
  rw [show ro.listTo s.ro.T 8 = s.view from rfl] at HL0
  obtain ⟨us, hus⟩ : ∃ us, s.view = us := ⟨_, rfl⟩
  rw [hus] at HL0 ⊢
  have HL := Lib.hid HL0
  clear h hr hn hus HL0
  go_enter Tryz.func19, Tryz.ntmps19
  go_wp2_with fail
  refine HM.out.mono ?_
  rintro e w' ⟨rfl, rfl⟩
  go_wp2_with fail
  refine HL.out.mono ?_
  rintro e w' hp
  have HF := Lib.hid hp
  obtain ⟨A, c, rfl, _⟩ := hp
  obtain ⟨m, hm⟩ : ∃ m, us.length = m := ⟨_, rfl⟩
  rw [hm] at HF ⊢
  clear hm
  go_wp2
  go_ret
  exact HF.out
set_option maxHeartbeats 8000000 in
set_option maxRecDepth 100000 in
theorem Self_any {nv : Nv} {l : Nat → Nat} {W0 : World} {s : Sw} {x : Nc} (h : NdX nv l W0 s x) : Calls Tryz.prog 23 #[.pointer (some ⟨nv.B, 0, none⟩)] W0 fun e w' => e = .returned (.agg #[.int .i64 s.ro.selfU.node, .int .u32 (s.ro.selfU.inc : Int), .int .i64 s.ro.selfU.st]) ∧ Below W0.heap.size W0 w' := by
  have b1 := below1 W0 (.cells #[.int .i64 0, .int .u32 0, .int .i64 0] 63)
  have k1 := heap_alloc_new W0 (.cells #[.int .i64 0, .int .u32 0, .int .i64 0] 63)
  obtain ⟨W1, hW1⟩ : ∃ W1, W0.alloc (.cells #[.int .i64 0, .int .u32 0, .int .i64 0] 63) = W1 := ⟨_, rfl⟩
  rw [hW1] at b1 k1
  have h1 := h.below b1
  have HM := Lib.hid (made_yes h1)
  have c12 := h1.n.blk.c12
  obtain ⟨n, hn, hr⟩ := h1.r.at_
  have HL := Lib.hid (ro.self_any W1 hr)
  obtain ⟨X, hX⟩ : ∃ X, W0.heap.size = X := ⟨_, rfl⟩
  rw [hX] at k1
  have HX := Lib.hid hX
  have HW := Lib.hid hW1
  have HK := Lib.hid k1
  have HB := Lib.hid b1
  obtain ⟨u, hu⟩ : ∃ u, s.ro.selfU = u := ⟨_, rfl⟩
  rw [hu] at HL ⊢
  clear h h1 hr hn hX hW1 k1 b1 hu
  go_enter Tryz.func23, Tryz.ntmps23
  go_wp2_with fail
  rw [HW.out, HX.out]
  refine HM.out.mono ?_
  rintro e w' ⟨rfl, rfl⟩
  go_wp2_with fail
  refine HL.out.mono ?_
  rintro e w2 ⟨rfl, hb⟩
  have hk := (hb.block X (block_lt HK.out)).trans HK.out
  have g0 := blk_froz hk 0
  have g1 := blk_froz hk 1
  have g2 := blk_froz hk 2
  obtain ⟨q0, q1, q2⟩ := blk3 hk
  have HK2 := Lib.hid hk
  have HB2 := Lib.hid hb
  clear hk hb
  go_wp2
  obtain ⟨d0, d1, d2⟩ := blk3 (set3_blk HK2.out (.int .i64 u.node) (.int .u32 (u.inc : Int)) (.int .i64 u.st))
  refine bodyPost_ret (v := .agg #[.int .i64 u.node, .int .u32 (u.inc : Int), .int .i64 u.st]) (by simp [results, Tryz.results23, go_sem, d0, d1, d2]) rfl ⟨rfl, ?_⟩
  have h1 : But (· = X) w2 (((w2.setCell ⟨X, 0, none⟩ (.int .i64 u.node)).setCell ⟨X, 1, none⟩ (.int .u32 (u.inc : Int))).setCell ⟨X, 2, none⟩ (.int .i64 u.st)) := ((But.set (S := (· = X)) _ (p := ⟨X, 0, none⟩) rfl _).trans (But.set (S := (· = X)) _ (p := ⟨X, 1, none⟩) rfl _)).trans (But.set (S := (· = X)) _ (p := ⟨X, 2, none⟩) rfl _)
  have h2 : Below W0.heap.size W0 w2 := HB.out.trans (HB2.out.mono HB.out.size)
  exact h2.trans (h1.below h2.size (fun k hk e => by have := HX.out; omega))
set_option maxHeartbeats 8000000 in
set_option maxRecDepth 100000 in
theorem Join_any {nv : Nv} {l : Nat → Nat} {W0 : World} {s : Sw} {x : Nc} (h : NdX nv l W0 s x) (hb : s.Base) (peer : Int) (hlen : s.out.length ≤ 900000) :
    Calls Tryz.prog 17 #[.pointer (some ⟨nv.B, 0, none⟩), .int .i64 peer] W0 (CallPost nv l W0 s (s.join peer)) := by
  have c11 := h.n.blk.c11
  cases hg : s.gone with
  | true =>
    have HM := Lib.hid (active_no h hb hg)
    have HF : Hid (∀ w', Below W0.heap.size W0 w' → CallPost nv l W0 s (s.join peer) (.returned (.slice none 0 0)) w') := Lib.hid (fun w' hb => by unfold Sw.join; rw [if_pos (.inl hg)]; exact CallPost.none h hb)
    clear h hb hg hlen c11
    go_enter Tryz.func17, Tryz.ntmps17
    go_wp2_with fail
    refine HM.out.mono ?_
    rintro e w' ⟨rfl, hb⟩
    have HF2 := Lib.hid (HF.out _ hb)
    clear hb
    go_wp2
    go_ret
    exact HF2.out
  | false =>
    have HM := Lib.hid (active_yes h hb hg)
    by_cases p1 : peer < 0
    · have HF : Hid (∀ w', Below W0.heap.size W0 w' → CallPost nv l W0 s (s.join peer) (.returned (.slice none 0 0)) w') := Lib.hid (fun w' hb => by unfold Sw.join; rw [if_pos (.inr (.inl p1))]; exact CallPost.none h hb)
      clear h hb hg hlen c11
      go_enter Tryz.func17, Tryz.ntmps17
      go_wp2_with fail
      refine HM.out.mono ?_
      rintro e w' ⟨rfl, hb⟩
      have HF2 := Lib.hid (HF.out _ hb)
      clear hb
      go_wp2
      go_ret
      exact HF2.out
    · have p1' : 0 ≤ peer := by omega
      by_cases p2 : 7 < peer
      · have HF : Hid (∀ w', Below W0.heap.size W0 w' → CallPost nv l W0 s (s.join peer) (.returned (.slice none 0 0)) w') := Lib.hid (fun w' hb => by unfold Sw.join; rw [if_pos (.inr (.inr (.inl p2)))]; exact CallPost.none h hb)
        have p2' : 8 ≤ peer := by omega
        clear h hb hg hlen p1 p2 c11
        go_enter Tryz.func17, Tryz.ntmps17
        go_wp2_with fail
        refine HM.out.mono ?_
        rintro e w' ⟨rfl, hb⟩
        have HF2 := Lib.hid (HF.out _ hb)
        clear hb
        go_wp2
        go_ret
        exact HF2.out
      · have p2' : peer < 8 := by omega
        have HC := Lib.hid (fun W (hw : Below W0.heap.size W0 W) => (h.below hw).n.blk.c11)
        by_cases p3 : peer = s.own
        · have HF : Hid (∀ w', Below W0.heap.size W0 w' → CallPost nv l W0 s (s.join peer) (.returned (.slice none 0 0)) w') := Lib.hid (fun w' hb => by unfold Sw.join; rw [if_pos (.inr (.inr (.inr p3)))]; exact CallPost.none h hb)
          have e3 : (peer == s.own) = true := by rw [beq_iff_eq]; exact p3
          clear h hb hg hlen p1 p2 c11 p3
          go_enter Tryz.func17, Tryz.ntmps17
          go_wp2_with fail
          refine HM.out.mono ?_
          rintro e w' ⟨rfl, hb⟩
          have c11 := HC.out _ hb
          have HF2 := Lib.hid (HF.out _ hb)
          clear hb
          go_wp2
          go_ret
          exact HF2.out
        · have e3 : (peer == s.own) = false := by rw [beq_eq_false_iff_ne]; exact p3
          have HS := Lib.hid (fun W (hw : Below W0.heap.size W0 W) => sendTables_any (h.below hw) hb peer (by unfold isNode; omega) false (by omega))
          have HJ : Hid (s.join peer = ((s.send peer (s.tables false)).flush, (s.send peer (s.tables false)).out)) := Lib.hid (by unfold Sw.join; rw [if_neg (by rintro (e | e | e | e); rw [hg] at e; cases e; exact p1 e; exact p2 e; exact p3 e)]; rfl)
          clear h hb hg hlen p1 p2 c11 p3
          go_enter Tryz.func17, Tryz.ntmps17
          go_wp2_with fail
          refine HM.out.mono ?_
          rintro e w' ⟨rfl, hb⟩
          have c11 := HC.out _ hb
          have HS2 := Lib.hid (HS.out _ hb)
          have HB := Lib.hid hb
          clear hb
          go_wp2_with fail
          refine HS2.out.mono ?_
          rintro e w2 ⟨rfl, l', ⟨x', hnd⟩, hg⟩
          have HT := Lib.hid (sent_any hnd)
          have HG := Lib.hid hg
          clear hnd hg c11
          go_wp2_with fail
          refine HT.out.mono ?_
          rintro e w3 ⟨u, l2, rfl, hn2, hg2, hp2⟩
          have HF : Hid (CallPost nv l W0 s (s.join peer) (.returned u) w3) := Lib.hid (by
            rw [HJ.out]
            exact ⟨u, l2, rfl, hn2, ((Goes.below HB.out).trans HG.out).trans hg2, hp2⟩)
          clear hn2 hg2 hp2
          go_wp2
          go_ret
          exact HF.out
theorem NdX.gone {nv : Nv} {l : Nat → Nat} {w : World} {s : Sw} {x : Nc} (h : NdX nv l w s x) (b : Bool) : NdX nv l w { s with gone := b } x := ⟨h.lt, h.r, h.q, h.wh, h.g, h.d, h.n.other rfl rfl rfl rfl rfl rfl rfl rfl rfl⟩
def NoSw (w : World) (u : Value) : Prop := u = .pointer none ∨ ∃ B, u = .pointer (some ⟨B, 0, none⟩) ∧ w.cell? ⟨B, 17, none⟩ = some (.map none)
theorem NoSw.below {w w' : World} {u : Value} (h : NoSw w u) (hb : Below w.heap.size w w') : NoSw w' u := h.imp id fun ⟨B, e, hh⟩ => ⟨B, e, (hb.cell (p := ⟨B, 17, none⟩) (bcell_lt hh)).trans hh⟩
theorem made_no {w : World} {u : Value} (h : NoSw w u) : Calls Tryz.prog 39 #[u] w fun e w' => e = .returned (.bool false) ∧ w = w' := by
  rcases h with rfl | ⟨B, rfl, c17⟩
  · go_enter Tryz.func39, Tryz.ntmps39
    go_wp2
    go_ret
    exact ⟨rfl, rfl⟩
  · have qM := fun (w : World) (r : Option Nat) => run_neq_map_nil (P := Tryz.prog) w 38 3 102 r Tryz.underlying38
    go_enter Tryz.func39, Tryz.ntmps39
    go_wp2
    go_ret
    exact ⟨rfl, rfl⟩
theorem active_none {w : World} {u : Value} (h : NoSw w u) : Calls Tryz.prog 43 #[u] w fun e w' => e = .returned (.bool false) ∧ w = w' := by
  have HM := Lib.hid (made_no h)
  clear h
  go_enter Tryz.func43, Tryz.ntmps43
  go_wp2_with fail
  refine HM.out.mono ?_
  rintro e w' ⟨rfl, rfl⟩
  go_wp2
  go_ret
  exact ⟨rfl, rfl⟩
set_option maxHeartbeats 8000000 in
set_option maxRecDepth 100000 in
theorem noTick {w : World} {u : Value} (h : NoSw w u) : Calls Tryz.prog 15 #[u] w fun e w' => e = .returned (.slice none 0 0) ∧ Below w.heap.size w w' := by
  have HM := Lib.hid (active_none h)
  clear h
  go_enter Tryz.func15, Tryz.ntmps15
  go_wp2_with fail
  refine HM.out.mono ?_
  rintro e w' ⟨rfl, rfl⟩
  go_wp2
  go_ret
  exact ⟨rfl, Below.refl _ _⟩
set_option maxHeartbeats 8000000 in
set_option maxRecDepth 100000 in
theorem noJoin {w : World} {u : Value} (n : Int) (h : NoSw w u) : Calls Tryz.prog 17 #[u, .int .i64 n] w fun e w' => e = .returned (.slice none 0 0) ∧ Below w.heap.size w w' := by
  have HM := Lib.hid (active_none h)
  clear h
  go_enter Tryz.func17, Tryz.ntmps17
  go_wp2_with fail
  refine HM.out.mono ?_
  rintro e w' ⟨rfl, rfl⟩
  go_wp2
  go_ret
  exact ⟨rfl, Below.refl _ _⟩
set_option maxHeartbeats 8000000 in
set_option maxRecDepth 100000 in
theorem noLeave {w : World} {u : Value} (h : NoSw w u) : Calls Tryz.prog 18 #[u] w fun e w' => e = .returned (.slice none 0 0) ∧ Below w.heap.size w w' := by
  have HM := Lib.hid (active_none h)
  clear h
  go_enter Tryz.func18, Tryz.ntmps18
  go_wp2_with fail
  refine HM.out.mono ?_
  rintro e w' ⟨rfl, rfl⟩
  go_wp2
  go_ret
  exact ⟨rfl, Below.refl _ _⟩
set_option maxHeartbeats 8000000 in
set_option maxRecDepth 100000 in
theorem noView {w : World} {u : Value} (h : NoSw w u) : Calls Tryz.prog 19 #[u] w fun e w' => e = .returned (.slice none 0 0) ∧ Below w.heap.size w w' := by
  have HM := Lib.hid (made_no h)
  clear h
  go_enter Tryz.func19, Tryz.ntmps19
  go_wp2_with fail
  refine HM.out.mono ?_
  rintro e w' ⟨rfl, rfl⟩
  go_wp2
  go_ret
  exact ⟨rfl, Below.refl _ _⟩
set_option maxHeartbeats 8000000 in
set_option maxRecDepth 100000 in
theorem noLive {w : World} {u : Value} (h : NoSw w u) : Calls Tryz.prog 20 #[u] w fun e w' => e = .returned (.slice none 0 0) ∧ Below w.heap.size w w' := by
  have HM := Lib.hid (made_no h)
  clear h
  go_enter Tryz.func20, Tryz.ntmps20
  go_wp2_with fail
  refine HM.out.mono ?_
  rintro e w' ⟨rfl, rfl⟩
  go_wp2
  go_ret
  exact ⟨rfl, Below.refl _ _⟩
set_option maxHeartbeats 8000000 in
set_option maxRecDepth 100000 in
theorem noRumors {w : World} {u : Value} (h : NoSw w u) : Calls Tryz.prog 21 #[u] w fun e w' => e = .returned (.slice none 0 0) ∧ Below w.heap.size w w' := by
  have HM := Lib.hid (made_no h)
  clear h
  go_enter Tryz.func21, Tryz.ntmps21
  go_wp2_with fail
  refine HM.out.mono ?_
  rintro e w' ⟨rfl, rfl⟩
  go_wp2
  go_ret
  exact ⟨rfl, Below.refl _ _⟩
set_option maxHeartbeats 8000000 in
set_option maxRecDepth 100000 in
theorem noEvents {w : World} {u : Value} (h : NoSw w u) : Calls Tryz.prog 22 #[u] w fun e w' => e = .returned (.slice none 0 0) ∧ Below w.heap.size w w' := by
  have HM := Lib.hid (made_no h)
  clear h
  go_enter Tryz.func22, Tryz.ntmps22
  go_wp2_with fail
  refine HM.out.mono ?_
  rintro e w' ⟨rfl, rfl⟩
  go_wp2
  go_ret
  exact ⟨rfl, Below.refl _ _⟩
end Go.Proofs.YtaicipldjmngaaaGreatDoor.sw

namespace Go.Proofs.YtaicipldjmngaaaGreatDoor.dr
end Go.Proofs.YtaicipldjmngaaaGreatDoor.dr
namespace Go.Proofs.YtaicipldjmngaaaGreatDoor.wh
end Go.Proofs.YtaicipldjmngaaaGreatDoor.wh
namespace Go.Proofs.YtaicipldjmngaaaGreatDoor.ro
end Go.Proofs.YtaicipldjmngaaaGreatDoor.ro
namespace Go.Proofs.YtaicipldjmngaaaGreatDoor.ru
end Go.Proofs.YtaicipldjmngaaaGreatDoor.ru
namespace Go.Proofs.YtaicipldjmngaaaGreatDoor.db
end Go.Proofs.YtaicipldjmngaaaGreatDoor.db
namespace Go.Proofs.YtaicipldjmngaaaGreatDoor.pr
end Go.Proofs.YtaicipldjmngaaaGreatDoor.pr
namespace Go.Proofs.YtaicipldjmngaaaGreatDoor.sp
end Go.Proofs.YtaicipldjmngaaaGreatDoor.sp
namespace Go.Proofs.YtaicipldjmngaaaGreatDoor.sw
open Go.Proofs.YtaicipldjmngaaaGreatDoor.dr Go.Proofs.YtaicipldjmngaaaGreatDoor.wh Go.Proofs.YtaicipldjmngaaaGreatDoor.ro Go.Proofs.YtaicipldjmngaaaGreatDoor.ru Go.Proofs.YtaicipldjmngaaaGreatDoor.db Go.Proofs.YtaicipldjmngaaaGreatDoor.pr Go.Proofs.YtaicipldjmngaaaGreatDoor.sp
open Go.RowKit
set_option linter.unusedVariables false
set_option linter.unusedSimpArgs false
def pt (b : Nat) : Value := .pointer (some ⟨b, 0, none⟩)
abbrev Tm := Array Value
def nv0 (Br Bq Bg Bd Bw Md : Nat) : Nv := ⟨0, Br, 0, Bq, 0, Bg, Bd, Bw, Md⟩
def x0 : Nc := ⟨0, none, fun _ => none, -1, .slice none 0 0, 0, 0, false, .slice none 0 0⟩
def lab2 (l : Nat → Nat) (a b B0 n0 n : Nat) : Nat → Nat := fun k => if k < a then l k else if k < b then (if k = B0 then n0 else n) else 0
theorem lab2_old {l : Nat → Nat} {a b B0 n0 n k : Nat} (h : k < a) : lab2 l a b B0 n0 n k = l k := if_pos h
theorem lab2_new {l : Nat → Nat} {a b B0 n0 n k : Nat} (h : a ≤ k) (h2 : k < b) : lab2 l a b B0 n0 n k = if k = B0 then n0 else n := by unfold lab2; rw [if_neg (by omega), if_pos h2]
def Lb (w0 w : World) (l : Nat → Nat) : Prop := ∀ k, l k ≠ 0 → w0.heap.size ≤ k ∧ k < w.heap.size
theorem Lb.lab2 {w0 w w' : World} {l : Nat → Nat} (h : Lb w0 w l) (h0 : w0.heap.size ≤ w.heap.size) (hs : w.heap.size ≤ w'.heap.size) (B0 n0 n : Nat) : Lb w0 w' (lab2 l w.heap.size w'.heap.size B0 n0 n) := fun k hk => by
  unfold Go.Proofs.YtaicipldjmngaaaGreatDoor.sw.lab2 at hk
  split at hk
  · have := h k hk; omega
  · split at hk
    · omega
    · exact absurd rfl hk
def Oq (c : Cf) (l : Nat → Nat) (w : World) (t : Tm) : Prop := ∃ B M, t[31]? = some (pt B) ∧ ru.QuAt w B M (ru.Qu.new c.mult) ∧ l B = 2 ∧ l M = 2
def Og (l : Nat → Nat) (w : World) (t : Tm) : Prop := ∃ B, t[32]? = some (pt B) ∧ pr.RgAt true (· = B) w B pr.Rg.new ∧ l B = 4
def Od (d : dr.Dr) (l : Nat → Nat) (w : World) (t : Tm) : Prop := ∃ B, t[35]? = some (pt B) ∧ dr.DwAt (fun k => k < w.heap.size ∧ l k ≠ 5) w (.pointer (some ⟨B, 0, none⟩)) d ∧ l B = 4
def Ow (l : Nat → Nat) (w : World) (t : Tm) : Prop := ∃ B, t[36]? = some (pt B) ∧ wh.WhAt (fun k => l k = 3) w B wh.St.new
def Om (l : Nat → Nat) (w : World) (t : Tm) : Prop := ∃ M, t[37]? = some (.map (some M)) ∧ IsMap KI dpEl w M (fun _ => none) 0 ∧ l M = 7
def Five (t : Tm) (Bq Bg Bd Bw Md : Nat) : Prop := t[31]? = some (pt Bq) ∧ t[32]? = some (pt Bg) ∧ t[35]? = some (pt Bd) ∧ t[36]? = some (pt Bw) ∧ t[37]? = some (.map (some Md))
def Ob (c : Cf) (me : Int) (Br : Nat) (l : Nat → Nat) (w : World) (t : Tm) : Prop := ∃ B Bq Bg Bd Bw Md, t[39]? = some (pt B) ∧ l B = 6 ∧ Five t Bq Bg Bd Bw Md ∧ w.heap[B]? = some (.cells (ndA (nv0 Br Bq Bg Bd Bw Md) c me x0) TN (0, 0))
section
variable {c : Cf} {me : Int} {Br : Nat} {d : dr.Dr} {l l' : Nat → Nat} {w w' : World} {t t' : Tm}
theorem Oq.move (h : Oq c l w t) (hb : Below w.heap.size w w') (hl : ∀ k, k < w.heap.size → l' k = l k) (e : t'[31]? = t[31]?) : Oq c l' w' t' := by
  obtain ⟨B, M, h1, h2, h3, h4⟩ := h
  exact ⟨B, M, e.trans h1, h2.below hb, (hl _ h2.lt.1).trans h3, (hl _ h2.lt.2).trans h4⟩
theorem Og.move (h : Og l w t) (hb : Below w.heap.size w w') (hl : ∀ k, k < w.heap.size → l' k = l k) (e : t'[32]? = t[32]?) : Og l' w' t' := by
  obtain ⟨B, h1, h2, h3⟩ := h
  exact ⟨B, e.trans h1, h2.below hb, (hl _ h2.lt).trans h3⟩
theorem Od.move (h : Od d l w t) (hb : Below w.heap.size w w') (hl : ∀ k, k < w.heap.size → l' k = l k) (e : t'[35]? = t[35]?) : Od d l' w' t' := by
  obtain ⟨B, h1, h2, h3⟩ := h
  have hB : B < w.heap.size := h2.lt B (tgt_ptr.2 rfl)
  refine ⟨B, e.trans h1, ?_, (hl _ hB).trans h3⟩
  have h4 : dr.DwAt (fun k => w.heap.size ≤ k ∨ (k < w.heap.size ∧ l k ≠ 5)) w (.pointer (some ⟨B, 0, none⟩)) d := h2.narrow (fun k hk e => by rcases e with e | e; omega; exact e) (fun k hk => by rw [← tgt_ptr.1 hk]; exact .inr ⟨hB, by rw [h3]; decide⟩)
  refine (h4.below hb).narrow (fun k hk e => ?_) (fun k hk => by rw [← tgt_ptr.1 hk]; exact ⟨Nat.lt_of_lt_of_le hB hb.size, by rw [hl _ hB, h3]; decide⟩)
  by_cases hlt : k < w.heap.size
  · exact .inr ⟨hlt, by rw [← hl k hlt]; exact e.2⟩
  · exact .inl (Nat.le_of_not_lt hlt)
theorem Ow.move (h : Ow l w t) (hb : Below w.heap.size w w') (hl : ∀ k, k < w.heap.size → l' k = l k) (e : t'[36]? = t[36]?) : Ow l' w' t' := by
  obtain ⟨B, h1, h2⟩ := h
  have h3 : wh.WhAt (fun k => l' k = 3) w B wh.St.new := h2.mono (fun k hk e => (hl k hk).trans e)
  exact ⟨B, e.trans h1, h3.below hb⟩
theorem Om.move (h : Om l w t) (hb : Below w.heap.size w w') (hl : ∀ k, k < w.heap.size → l' k = l k) (e : t'[37]? = t[37]?) : Om l' w' t' := by
  obtain ⟨M, h1, h2, h3⟩ := h
  exact ⟨M, e.trans h1, h2.block (hb.block _ h2.lt), (hl _ h2.lt).trans h3⟩
theorem Five.move {Bq Bg Bd Bw Md : Nat} (h : Five t Bq Bg Bd Bw Md) (e1 : t'[31]? = t[31]?) (e2 : t'[32]? = t[32]?) (e3 : t'[35]? = t[35]?) (e4 : t'[36]? = t[36]?) (e5 : t'[37]? = t[37]?) : Five t' Bq Bg Bd Bw Md := ⟨e1.trans h.1, e2.trans h.2.1, e3.trans h.2.2.1, e4.trans h.2.2.2.1, e5.trans h.2.2.2.2⟩
theorem Ob.move (h : Ob c me Br l w t) (hb : Below w.heap.size w w') (hl : ∀ k, k < w.heap.size → l' k = l k) (e0 : t'[39]? = t[39]?) (e1 : t'[31]? = t[31]?) (e2 : t'[32]? = t[32]?) (e3 : t'[35]? = t[35]?) (e4 : t'[36]? = t[36]?) (e5 : t'[37]? = t[37]?) : Ob c me Br l' w' t' := by
  obtain ⟨B, Bq, Bg, Bd, Bw, Md, h1, h2, h3, h4⟩ := h
  exact ⟨B, Bq, Bg, Bd, Bw, Md, e0.trans h1, (hl _ (block_lt h4)).trans h2, h3.move e1 e2 e3 e4 e5, (hb.block _ (block_lt h4)).trans h4⟩
end
structure NwJ (c : Cf) (me : Int) (Br : Nat) (d : dr.Dr) (w0 : World) (f : Nat → Bool) (a : Act) (w : World) : Prop where
  bel : Below w0.heap.size w0 w
  obj : ∃ l : Nat → Nat, Lb w0 w l ∧ (f 5 = true → Oq c l w a.tmps) ∧ (f 6 = true → Og l w a.tmps) ∧ (f 9 = true → Od d l w a.tmps) ∧ (f 10 = true → Ow l w a.tmps) ∧ (f 11 = true → Om l w a.tmps) ∧ (f 13 = true → Ob c me Br l w a.tmps)
  mind : f 7 = true → ∃ Bq Bg, a.tmps[31]? = some (pt Bq) ∧ a.tmps[32]? = some (pt Bg) ∧ a.tmps[33]? = some (.agg #[pt Br, pt Bq, pt Bg])
  bld : f 12 = true → ∃ Bq Bg Bd Bw Md, Five a.tmps Bq Bg Bd Bw Md ∧ a.tmps[38]? = some (.agg (ndA (nv0 Br Bq Bg Bd Bw Md) c me x0))
  fin : f 14 = true → ∃ B, a.tmps[39]? = some (pt B) ∧ a.tmps[12]? = some (pt B)
section
variable {c : Cf} {me : Int} {Br : Nat} {d : dr.Dr} {w0 w w' : World} {f : Nat → Bool} {a : Act}
theorem NwJ.start : NwJ c me Br d w0 (fun _ => false) a { w0 with drawn := w0.drawn + 1 } :=
  ⟨⟨rfl, rfl, rfl, Nat.le_refl _, fun _ _ => rfl⟩, ⟨fun _ => 0, (fun k hk => absurd rfl hk), (fun h => by cases h), (fun h => by cases h), (fun h => by cases h), (fun h => by cases h), (fun h => by cases h), (fun h => by cases h)⟩, (fun h => by cases h), (fun h => by cases h), (fun h => by cases h)⟩
theorem NwJ.keep (h : NwJ c me Br d w0 f a w) {j t : Nat} (hj : j ≠ 5 ∧ j ≠ 6 ∧ j ≠ 9 ∧ j ≠ 10 ∧ j ≠ 11 ∧ j ≠ 13 ∧ j ≠ 7 ∧ j ≠ 12 ∧ j ≠ 14) (ht : t ≠ 31 ∧ t ≠ 32 ∧ t ≠ 35 ∧ t ≠ 36 ∧ t ≠ 37 ∧ t ≠ 39 ∧ t ≠ 33 ∧ t ≠ 38 ∧ t ≠ 12) (v : Value) : NwJ c me Br d w0 (Go.Rel.upd f j) (a.put (some t) v) w := by
  obtain ⟨l, h0, hq, hg, hd, hw, hm, hb⟩ := h.obj
  have hl : ∀ k, k < w.heap.size → l k = l k := fun _ _ => rfl
  have br := Below.refl w.heap.size w
  obtain ⟨j5, j6, j9, j10, j11, j13, j7, j12, j14⟩ := hj
  obtain ⟨t5, t6, t9, t10, t11, t13, t7, t12, t14⟩ := ht
  refine ⟨h.bel, ⟨l, h0, fun z => (hq (by rwa [acc_upd_off j5] at z)).move br hl (acc_put_off t5), fun z => (hg (by rwa [acc_upd_off j6] at z)).move br hl (acc_put_off t6), fun z => (hd (by rwa [acc_upd_off j9] at z)).move br hl (acc_put_off t9), fun z => (hw (by rwa [acc_upd_off j10] at z)).move br hl (acc_put_off t10), fun z => (hm (by rwa [acc_upd_off j11] at z)).move br hl (acc_put_off t11), fun z => (hb (by rwa [acc_upd_off j13] at z)).move br hl (acc_put_off t13) (acc_put_off t5) (acc_put_off t6) (acc_put_off t9) (acc_put_off t10) (acc_put_off t11)⟩, fun z => ?_, fun z => ?_, fun z => ?_⟩
  · obtain ⟨Bq, Bg, e1, e2, e3⟩ := h.mind (by rwa [acc_upd_off j7] at z)
    exact ⟨Bq, Bg, (acc_put_off t5).trans e1, (acc_put_off t6).trans e2, (acc_put_off t7).trans e3⟩
  · obtain ⟨Bq, Bg, Bd, Bw, Md, e1, e2⟩ := h.bld (by rwa [acc_upd_off j12] at z)
    exact ⟨Bq, Bg, Bd, Bw, Md, e1.move (acc_put_off t5) (acc_put_off t6) (acc_put_off t9) (acc_put_off t10) (acc_put_off t11), (acc_put_off t12).trans e2⟩
  · obtain ⟨B, e1, e2⟩ := h.fin (by rwa [acc_upd_off j14] at z)
    exact ⟨B, (acc_put_off t13).trans e1, (acc_put_off t14).trans e2⟩
theorem acc_put_on_ {a : Act} {t : Nat} {v : Value} (h : t < a.tmps.size) : (a.put (some t) v).tmps[t]? = some v := by
  rw [show (a.put (some t) v).tmps = a.tmps.setIfInBounds t v from rfl, Array.getElem?_setIfInBounds_self_of_lt h]
theorem NwJ.queue (h : NwJ c me Br d w0 f a w) (z7 : f 7 = false) (z12 : f 12 = false) (z13 : f 13 = false) (z14 : f 14 = false) (hbw : Below w.heap.size w w') (v : Value) (hs : 31 < a.tmps.size) {B M : Nat} (e : v = pt B) (hq' : ru.QuAt w' B M (ru.Qu.new c.mult)) (h1 : w.heap.size ≤ B) (h2 : w.heap.size ≤ M) : NwJ c me Br d w0 (Go.Rel.upd f 5) (a.put (some 31) v) w' := by
  obtain ⟨l, h0, hq, hg, hd, hw, hm, hb⟩ := h.obj
  have hl : ∀ k, k < w.heap.size → lab2 l w.heap.size w'.heap.size B 2 2 k = l k := fun k hk => lab2_old hk
  have hnew : ∀ k, w.heap.size ≤ k → k < w'.heap.size → lab2 l w.heap.size w'.heap.size B 2 2 k = if k = B then 2 else 2 := fun k h1 h2 => lab2_new h1 h2
  refine ⟨h.bel.trans (hbw.mono h.bel.size), ⟨_, h0.lab2 h.bel.size hbw.size B 2 2, fun _ => ?own, fun z => (hg (by rwa [acc_upd_off (by decide)] at z)).move hbw hl (acc_put_off (by decide)), fun z => (hd (by rwa [acc_upd_off (by decide)] at z)).move hbw hl (acc_put_off (by decide)), fun z => (hw (by rwa [acc_upd_off (by decide)] at z)).move hbw hl (acc_put_off (by decide)), fun z => (hm (by rwa [acc_upd_off (by decide)] at z)).move hbw hl (acc_put_off (by decide)), fun z => by rw [acc_upd_off (by decide), z13] at z; cases z⟩, ?mind, ?bld, ?fin⟩
  case own =>
    refine ⟨B, M, (acc_put_on_ hs).trans (by rw [e]), hq', ?_, ?_⟩
    · rw [hnew B h1 hq'.lt.1]; simp
    · rw [hnew M h2 hq'.lt.2]; simp
  case mind => intro z; rw [acc_upd_off (by decide), z7] at z; cases z
  case bld => intro z; rw [acc_upd_off (by decide), z12] at z; cases z
  case fin => intro z; rw [acc_upd_off (by decide), z14] at z; cases z
theorem NwJ.ring (h : NwJ c me Br d w0 f a w) (z7 : f 7 = false) (z12 : f 12 = false) (z13 : f 13 = false) (z14 : f 14 = false) (hbw : Below w.heap.size w w') (v : Value) (hs : 32 < a.tmps.size) {B : Nat} (e : v = pt B) (hg' : pr.RgAt true (· = B) w' B pr.Rg.new) (h1 : w.heap.size ≤ B) : NwJ c me Br d w0 (Go.Rel.upd f 6) (a.put (some 32) v) w' := by
  obtain ⟨l, h0, hq, hg, hd, hw, hm, hb⟩ := h.obj
  have hl : ∀ k, k < w.heap.size → lab2 l w.heap.size w'.heap.size B 4 4 k = l k := fun k hk => lab2_old hk
  have hnew : ∀ k, w.heap.size ≤ k → k < w'.heap.size → lab2 l w.heap.size w'.heap.size B 4 4 k = if k = B then 4 else 4 := fun k h1 h2 => lab2_new h1 h2
  refine ⟨h.bel.trans (hbw.mono h.bel.size), ⟨_, h0.lab2 h.bel.size hbw.size B 4 4, fun z => (hq (by rwa [acc_upd_off (by decide)] at z)).move hbw hl (acc_put_off (by decide)), fun _ => ?own, fun z => (hd (by rwa [acc_upd_off (by decide)] at z)).move hbw hl (acc_put_off (by decide)), fun z => (hw (by rwa [acc_upd_off (by decide)] at z)).move hbw hl (acc_put_off (by decide)), fun z => (hm (by rwa [acc_upd_off (by decide)] at z)).move hbw hl (acc_put_off (by decide)), fun z => by rw [acc_upd_off (by decide), z13] at z; cases z⟩, ?mind, ?bld, ?fin⟩
  case own =>
    exact ⟨B, (acc_put_on_ hs).trans (by rw [e]), hg', by rw [hnew B h1 hg'.lt]; simp⟩
  case mind => intro z; rw [acc_upd_off (by decide), z7] at z; cases z
  case bld => intro z; rw [acc_upd_off (by decide), z12] at z; cases z
  case fin => intro z; rw [acc_upd_off (by decide), z14] at z; cases z
theorem NwJ.draws (h : NwJ c me Br d w0 f a w) (z12 : f 12 = false) (z13 : f 13 = false) (z14 : f 14 = false) (hbw : Below w.heap.size w w') (v : Value) (hs : 35 < a.tmps.size) {B : Nat} (e : v = pt B) (hd' : dr.DwAt (fun k => k < w.heap.size ∨ k = B) w' (.pointer (some ⟨B, 0, none⟩)) d) (h1 : w.heap.size ≤ B) (h2 : B < w'.heap.size) : NwJ c me Br d w0 (Go.Rel.upd f 9) (a.put (some 35) v) w' := by
  obtain ⟨l, h0, hq, hg, hd, hw, hm, hb⟩ := h.obj
  have hl : ∀ k, k < w.heap.size → lab2 l w.heap.size w'.heap.size B 4 5 k = l k := fun k hk => lab2_old hk
  have hnew : ∀ k, w.heap.size ≤ k → k < w'.heap.size → lab2 l w.heap.size w'.heap.size B 4 5 k = if k = B then 4 else 5 := fun k h1 h2 => lab2_new h1 h2
  refine ⟨h.bel.trans (hbw.mono h.bel.size), ⟨_, h0.lab2 h.bel.size hbw.size B 4 5, fun z => (hq (by rwa [acc_upd_off (by decide)] at z)).move hbw hl (acc_put_off (by decide)), fun z => (hg (by rwa [acc_upd_off (by decide)] at z)).move hbw hl (acc_put_off (by decide)), fun _ => ?own, fun z => (hw (by rwa [acc_upd_off (by decide)] at z)).move hbw hl (acc_put_off (by decide)), fun z => (hm (by rwa [acc_upd_off (by decide)] at z)).move hbw hl (acc_put_off (by decide)), fun z => by rw [acc_upd_off (by decide), z13] at z; cases z⟩, ?mind, ?bld, ?fin⟩
  case own =>
    have hB : lab2 l w.heap.size w'.heap.size B 4 5 B = 4 := by rw [hnew B h1 h2]; simp
    refine ⟨B, (acc_put_on_ hs).trans (by rw [e]), hd'.narrow (fun k hk e2 => ?_) (fun k hk => by rw [← tgt_ptr.1 hk]; exact ⟨h2, by rw [hB]; decide⟩), hB⟩
    by_cases hlt : k < w.heap.size
    · exact .inl hlt
    · refine .inr (Classical.byContradiction fun hne => e2.2 ?_)
      rw [hnew k (Nat.le_of_not_lt hlt) hk, if_neg hne]
  case mind =>
    intro z
    obtain ⟨Bq, Bg, e1, e2, e3⟩ := h.mind (by rwa [acc_upd_off (by decide)] at z)
    exact ⟨Bq, Bg, (acc_put_off (by decide)).trans e1, (acc_put_off (by decide)).trans e2, (acc_put_off (by decide)).trans e3⟩
  case bld => intro z; rw [acc_upd_off (by decide), z12] at z; cases z
  case fin => intro z; rw [acc_upd_off (by decide), z14] at z; cases z
theorem NwJ.wheel (h : NwJ c me Br d w0 f a w) (z12 : f 12 = false) (z13 : f 13 = false) (z14 : f 14 = false) (hbw : Below w.heap.size w w') (v : Value) (hs : 36 < a.tmps.size) {B : Nat} (e : v = pt B) (hw' : wh.WhAt (fun k => w.heap.size ≤ k) w' B wh.St.new) : NwJ c me Br d w0 (Go.Rel.upd f 10) (a.put (some 36) v) w' := by
  obtain ⟨l, h0, hq, hg, hd, hw, hm, hb⟩ := h.obj
  have hl : ∀ k, k < w.heap.size → lab2 l w.heap.size w'.heap.size 0 3 3 k = l k := fun k hk => lab2_old hk
  have hnew : ∀ k, w.heap.size ≤ k → k < w'.heap.size → lab2 l w.heap.size w'.heap.size 0 3 3 k = if k = 0 then 3 else 3 := fun k h1 h2 => lab2_new h1 h2
  refine ⟨h.bel.trans (hbw.mono h.bel.size), ⟨_, h0.lab2 h.bel.size hbw.size 0 3 3, fun z => (hq (by rwa [acc_upd_off (by decide)] at z)).move hbw hl (acc_put_off (by decide)), fun z => (hg (by rwa [acc_upd_off (by decide)] at z)).move hbw hl (acc_put_off (by decide)), fun z => (hd (by rwa [acc_upd_off (by decide)] at z)).move hbw hl (acc_put_off (by decide)), fun _ => ?own, fun z => (hm (by rwa [acc_upd_off (by decide)] at z)).move hbw hl (acc_put_off (by decide)), fun z => by rw [acc_upd_off (by decide), z13] at z; cases z⟩, ?mind, ?bld, ?fin⟩
  case own =>
    refine ⟨B, (acc_put_on_ hs).trans (by rw [e]), hw'.mono (fun k hk e2 => ?_)⟩
    rw [hnew k e2 hk]; simp
  case mind =>
    intro z
    obtain ⟨Bq, Bg, e1, e2, e3⟩ := h.mind (by rwa [acc_upd_off (by decide)] at z)
    exact ⟨Bq, Bg, (acc_put_off (by decide)).trans e1, (acc_put_off (by decide)).trans e2, (acc_put_off (by decide)).trans e3⟩
  case bld => intro z; rw [acc_upd_off (by decide), z12] at z; cases z
  case fin => intro z; rw [acc_upd_off (by decide), z14] at z; cases z
theorem NwJ.mapped (h : NwJ c me Br d w0 f a w) (z12 : f 12 = false) (z13 : f 13 = false) (z14 : f 14 = false) (hbw : Below w.heap.size w w') (v : Value) (hs : 37 < a.tmps.size) {M : Nat} (e : v = .map (some M)) (hm' : IsMap KI dpEl w' M (fun _ => none) 0) (h1 : w.heap.size ≤ M) : NwJ c me Br d w0 (Go.Rel.upd f 11) (a.put (some 37) v) w' := by
  obtain ⟨l, h0, hq, hg, hd, hw, hm, hb⟩ := h.obj
  have hl : ∀ k, k < w.heap.size → lab2 l w.heap.size w'.heap.size M 7 7 k = l k := fun k hk => lab2_old hk
  have hnew : ∀ k, w.heap.size ≤ k → k < w'.heap.size → lab2 l w.heap.size w'.heap.size M 7 7 k = if k = M then 7 else 7 := fun k h1 h2 => lab2_new h1 h2
  refine ⟨h.bel.trans (hbw.mono h.bel.size), ⟨_, h0.lab2 h.bel.size hbw.size M 7 7, fun z => (hq (by rwa [acc_upd_off (by decide)] at z)).move hbw hl (acc_put_off (by decide)), fun z => (hg (by rwa [acc_upd_off (by decide)] at z)).move hbw hl (acc_put_off (by decide)), fun z => (hd (by rwa [acc_upd_off (by decide)] at z)).move hbw hl (acc_put_off (by decide)), fun z => (hw (by rwa [acc_upd_off (by decide)] at z)).move hbw hl (acc_put_off (by decide)), fun _ => ?own, fun z => by rw [acc_upd_off (by decide), z13] at z; cases z⟩, ?mind, ?bld, ?fin⟩
  case own =>
    exact ⟨M, (acc_put_on_ hs).trans (by rw [e]), hm', by rw [hnew M h1 hm'.lt]; simp⟩
  case mind =>
    intro z
    obtain ⟨Bq, Bg, e1, e2, e3⟩ := h.mind (by rwa [acc_upd_off (by decide)] at z)
    exact ⟨Bq, Bg, (acc_put_off (by decide)).trans e1, (acc_put_off (by decide)).trans e2, (acc_put_off (by decide)).trans e3⟩
  case bld => intro z; rw [acc_upd_off (by decide), z12] at z; cases z
  case fin => intro z; rw [acc_upd_off (by decide), z14] at z; cases z
theorem NwJ.boxed (h : NwJ c me Br d w0 f a w) (z14 : f 14 = false) (hbw : Below w.heap.size w w') (v : Value) (hs : 39 < a.tmps.size) {B Bq Bg Bd Bw Md : Nat} (e : v = pt B) (h5 : Five a.tmps Bq Bg Bd Bw Md) (h1 : w.heap.size ≤ B) (hk : w'.heap[B]? = some (.cells (ndA (nv0 Br Bq Bg Bd Bw Md) c me x0) TN (0, 0))) : NwJ c me Br d w0 (Go.Rel.upd f 13) (a.put (some 39) v) w' := by
  obtain ⟨l, h0, hq, hg, hd, hw, hm, hb⟩ := h.obj
  have hl : ∀ k, k < w.heap.size → lab2 l w.heap.size w'.heap.size B 6 6 k = l k := fun k hk => lab2_old hk
  have hnew : ∀ k, w.heap.size ≤ k → k < w'.heap.size → lab2 l w.heap.size w'.heap.size B 6 6 k = if k = B then 6 else 6 := fun k h1 h2 => lab2_new h1 h2
  refine ⟨h.bel.trans (hbw.mono h.bel.size), ⟨_, h0.lab2 h.bel.size hbw.size B 6 6, fun z => (hq (by rwa [acc_upd_off (by decide)] at z)).move hbw hl (acc_put_off (by decide)), fun z => (hg (by rwa [acc_upd_off (by decide)] at z)).move hbw hl (acc_put_off (by decide)), fun z => (hd (by rwa [acc_upd_off (by decide)] at z)).move hbw hl (acc_put_off (by decide)), fun z => (hw (by rwa [acc_upd_off (by decide)] at z)).move hbw hl (acc_put_off (by decide)), fun z => (hm (by rwa [acc_upd_off (by decide)] at z)).move hbw hl (acc_put_off (by decide)), fun _ => ?own⟩, ?mind, ?bld, ?fin⟩
  case own =>
    exact ⟨B, Bq, Bg, Bd, Bw, Md, (acc_put_on_ hs).trans (by rw [e]), by rw [hnew B h1 (block_lt hk)]; simp, h5.move (acc_put_off (by decide)) (acc_put_off (by decide)) (acc_put_off (by decide)) (acc_put_off (by decide)) (acc_put_off (by decide)), hk⟩
  case mind =>
    intro z
    obtain ⟨Bq, Bg, e1, e2, e3⟩ := h.mind (by rwa [acc_upd_off (by decide)] at z)
    exact ⟨Bq, Bg, (acc_put_off (by decide)).trans e1, (acc_put_off (by decide)).trans e2, (acc_put_off (by decide)).trans e3⟩
  case bld =>
    intro z
    obtain ⟨Bq, Bg, Bd, Bw, Md, e1, e2⟩ := h.bld (by rwa [acc_upd_off (by decide)] at z)
    exact ⟨Bq, Bg, Bd, Bw, Md, e1.move (acc_put_off (by decide)) (acc_put_off (by decide)) (acc_put_off (by decide)) (acc_put_off (by decide)) (acc_put_off (by decide)), (acc_put_off (by decide)).trans e2⟩
  case fin => intro z; rw [acc_upd_off (by decide), z14] at z; cases z
theorem NwJ.minded (h : NwJ c me Br d w0 f a w) {v : Value} {Bq Bg : Nat} (e1 : a.tmps[31]? = some (pt Bq)) (e2 : a.tmps[32]? = some (pt Bg)) (e : v = .agg #[pt Br, pt Bq, pt Bg]) (hs : 33 < a.tmps.size) : NwJ c me Br d w0 (Go.Rel.upd f 7) (a.put (some 33) v) w := by
  obtain ⟨l, h0, hq, hg, hd, hw, hm, hb⟩ := h.obj
  have hl : ∀ k, k < w.heap.size → l k = l k := fun _ _ => rfl
  have br := Below.refl w.heap.size w
  refine ⟨h.bel, ⟨l, h0, fun z => (hq (by rwa [acc_upd_off (by decide)] at z)).move br hl (acc_put_off (by decide)), fun z => (hg (by rwa [acc_upd_off (by decide)] at z)).move br hl (acc_put_off (by decide)), fun z => (hd (by rwa [acc_upd_off (by decide)] at z)).move br hl (acc_put_off (by decide)), fun z => (hw (by rwa [acc_upd_off (by decide)] at z)).move br hl (acc_put_off (by decide)), fun z => (hm (by rwa [acc_upd_off (by decide)] at z)).move br hl (acc_put_off (by decide)), fun z => (hb (by rwa [acc_upd_off (by decide)] at z)).move br hl (acc_put_off (by decide)) (acc_put_off (by decide)) (acc_put_off (by decide)) (acc_put_off (by decide)) (acc_put_off (by decide)) (acc_put_off (by decide))⟩, ?mind, ?bld, ?fin⟩
  case mind =>
    intro _
    exact ⟨Bq, Bg, (acc_put_off (by decide)).trans e1, (acc_put_off (by decide)).trans e2, (acc_put_on_ hs).trans (by rw [e])⟩
  case bld =>
    intro z
    obtain ⟨Bq, Bg, Bd, Bw, Md, e1, e2⟩ := h.bld (by rwa [acc_upd_off (by decide)] at z)
    exact ⟨Bq, Bg, Bd, Bw, Md, e1.move (acc_put_off (by decide)) (acc_put_off (by decide)) (acc_put_off (by decide)) (acc_put_off (by decide)) (acc_put_off (by decide)), (acc_put_off (by decide)).trans e2⟩
  case fin =>
    intro z
    obtain ⟨B, e1, e2⟩ := h.fin (by rwa [acc_upd_off (by decide)] at z)
    exact ⟨B, (acc_put_off (by decide)).trans e1, (acc_put_off (by decide)).trans e2⟩
theorem NwJ.built (h : NwJ c me Br d w0 f a w) {v : Value} {Bq Bg Bd Bw Md : Nat} (h5 : Five a.tmps Bq Bg Bd Bw Md) (e : v = .agg (ndA (nv0 Br Bq Bg Bd Bw Md) c me x0)) (hs : 38 < a.tmps.size) : NwJ c me Br d w0 (Go.Rel.upd f 12) (a.put (some 38) v) w := by
  obtain ⟨l, h0, hq, hg, hd, hw, hm, hb⟩ := h.obj
  have hl : ∀ k, k < w.heap.size → l k = l k := fun _ _ => rfl
  have br := Below.refl w.heap.size w
  refine ⟨h.bel, ⟨l, h0, fun z => (hq (by rwa [acc_upd_off (by decide)] at z)).move br hl (acc_put_off (by decide)), fun z => (hg (by rwa [acc_upd_off (by decide)] at z)).move br hl (acc_put_off (by decide)), fun z => (hd (by rwa [acc_upd_off (by decide)] at z)).move br hl (acc_put_off (by decide)), fun z => (hw (by rwa [acc_upd_off (by decide)] at z)).move br hl (acc_put_off (by decide)), fun z => (hm (by rwa [acc_upd_off (by decide)] at z)).move br hl (acc_put_off (by decide)), fun z => (hb (by rwa [acc_upd_off (by decide)] at z)).move br hl (acc_put_off (by decide)) (acc_put_off (by decide)) (acc_put_off (by decide)) (acc_put_off (by decide)) (acc_put_off (by decide)) (acc_put_off (by decide))⟩, ?mind, ?bld, ?fin⟩
  case mind =>
    intro z
    obtain ⟨Bq, Bg, e1, e2, e3⟩ := h.mind (by rwa [acc_upd_off (by decide)] at z)
    exact ⟨Bq, Bg, (acc_put_off (by decide)).trans e1, (acc_put_off (by decide)).trans e2, (acc_put_off (by decide)).trans e3⟩
  case bld =>
    intro _
    exact ⟨Bq, Bg, Bd, Bw, Md, h5.move (acc_put_off (by decide)) (acc_put_off (by decide)) (acc_put_off (by decide)) (acc_put_off (by decide)) (acc_put_off (by decide)), (acc_put_on_ hs).trans (by rw [e])⟩
  case fin =>
    intro z
    obtain ⟨B, e1, e2⟩ := h.fin (by rwa [acc_upd_off (by decide)] at z)
    exact ⟨B, (acc_put_off (by decide)).trans e1, (acc_put_off (by decide)).trans e2⟩
theorem NwJ.ended (h : NwJ c me Br d w0 f a w) {v : Value} {B : Nat} (e1 : a.tmps[39]? = some (pt B)) (e : v = pt B) (hs : 12 < a.tmps.size) : NwJ c me Br d w0 (Go.Rel.upd f 14) (a.put (some 12) v) w := by
  obtain ⟨l, h0, hq, hg, hd, hw, hm, hb⟩ := h.obj
  have hl : ∀ k, k < w.heap.size → l k = l k := fun _ _ => rfl
  have br := Below.refl w.heap.size w
  refine ⟨h.bel, ⟨l, h0, fun z => (hq (by rwa [acc_upd_off (by decide)] at z)).move br hl (acc_put_off (by decide)), fun z => (hg (by rwa [acc_upd_off (by decide)] at z)).move br hl (acc_put_off (by decide)), fun z => (hd (by rwa [acc_upd_off (by decide)] at z)).move br hl (acc_put_off (by decide)), fun z => (hw (by rwa [acc_upd_off (by decide)] at z)).move br hl (acc_put_off (by decide)), fun z => (hm (by rwa [acc_upd_off (by decide)] at z)).move br hl (acc_put_off (by decide)), fun z => (hb (by rwa [acc_upd_off (by decide)] at z)).move br hl (acc_put_off (by decide)) (acc_put_off (by decide)) (acc_put_off (by decide)) (acc_put_off (by decide)) (acc_put_off (by decide)) (acc_put_off (by decide))⟩, ?mind, ?bld, ?fin⟩
  case mind =>
    intro z
    obtain ⟨Bq, Bg, e1, e2, e3⟩ := h.mind (by rwa [acc_upd_off (by decide)] at z)
    exact ⟨Bq, Bg, (acc_put_off (by decide)).trans e1, (acc_put_off (by decide)).trans e2, (acc_put_off (by decide)).trans e3⟩
  case bld =>
    intro z
    obtain ⟨Bq, Bg, Bd, Bw, Md, e1, e2⟩ := h.bld (by rwa [acc_upd_off (by decide)] at z)
    exact ⟨Bq, Bg, Bd, Bw, Md, e1.move (acc_put_off (by decide)) (acc_put_off (by decide)) (acc_put_off (by decide)) (acc_put_off (by decide)) (acc_put_off (by decide)), (acc_put_off (by decide)).trans e2⟩
  case fin =>
    intro _
    exact ⟨B, (acc_put_off (by decide)).trans e1, (acc_put_on_ hs).trans (by rw [e])⟩
end
theorem nd_built (Br Bq Bg Bd Bw Md : Nat) (c : Cf) (me : Int) : Tryz.prog.built 48 [(0, .agg #[.int .i64 c.period, .int .i64 c.wait, .int .i64 c.indirect, .int .i64 c.least, .int .i64 c.most, .int .i64 c.want, .int .i64 c.mult, .int .i64 c.piggy, .int .i64 c.gossip, .int .i64 c.fanout, .int .i64 c.sync]), (1, .int .i64 me), (2, .agg #[pt Br, pt Bq, pt Bg]), (3, pt Bd), (4, pt Bw), (5, .map (some Md)), (9, .int .i64 (-1))] = some (ndA (nv0 Br Bq Bg Bd Bw Md) c me x0) := by kernel_rfl
theorem mind_built (a b c : Nat) : Tryz.prog.built 35 [(0, pt a), (1, pt b), (2, pt c)] = some #[pt a, pt b, pt c] := by kernel_rfl
end Go.Proofs.YtaicipldjmngaaaGreatDoor.sw
