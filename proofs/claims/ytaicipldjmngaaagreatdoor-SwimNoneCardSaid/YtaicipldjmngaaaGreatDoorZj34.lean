import Derived.Test.YtaicipldjmngaaaGreatDoorZj30
import Derived.WalkSpells
import Derived.BigQuiet
import Derived.Test.YtaicipldjmngaaaGreatDoorZj33
namespace Go.Proofs.YtaicipldjmngaaaGreatDoor.db
open Go.RowKit Go.Maps
set_option linter.unusedSimpArgs false
set_option linter.unusedVariables false
theorem made_no (v : Value) (w : World) (h : NoDb w v) : Calls Tryz.prog 68 #[v] w fun e w' => e = .returned (.bool false) ∧ w = w' := by
  rcases h with rfl | ⟨B, rfl, hh⟩
  · go_enter Tryz.func68, Tryz.ntmps68
    go_wp2
    go_ret
    exact ⟨rfl, rfl⟩
  · have c5 : w.cell? ⟨B, 5, none⟩ = some (.map none) := by rw [cell_of_row _ _ _ _ _ _ hh]; rfl
    clear hh
    have qM := fun (w : World) (r : Option Nat) => run_neq_map_nil (P := Tryz.prog) w TM 3 254 r Tryz.underlying136
    go_enter Tryz.func68, Tryz.ntmps68
    go_wp2
    go_ret
    exact ⟨rfl, rfl⟩
theorem made_yes {B M : Nat} {d : Db} (w : World) (h : DbAt w B M d) : Calls Tryz.prog 68 #[.pointer (some ⟨B, 0, none⟩)] w fun e w' => e = .returned (.bool true) ∧ w = w' := by
  obtain ⟨_, _, _, _, _, c5⟩ := blk6 h.blk
  clear h
  have qM := fun (w : World) (r : Option Nat) => run_neq_map_nil (P := Tryz.prog) w TM 3 254 r Tryz.underlying136
  go_enter Tryz.func68, Tryz.ntmps68
  go_wp2
  go_ret
  exact ⟨rfl, rfl⟩
end Go.Proofs.YtaicipldjmngaaaGreatDoor.db

namespace Go.Proofs.YtaicipldjmngaaaGreatDoor.db
open Go.RowKit Go.Maps
set_option linter.unusedSimpArgs false
set_option linter.unusedVariables false
theorem DbAt.ticked {w : World} {B M : Nat} {d : Db} (h : DbAt w B M d) : DbAt (w.setCell ⟨B, 4, none⟩ (.int .i64 ((d.gone : Int) + 1))) B M d.tick :=
  ⟨by rw [block_set h.blk 4 _]; rfl, h.map.block (Below.heap_setCell _ _ _ _ (fun e => h.ne e.symm)), Db.tick_ok h.ok, h.wf⟩
end Go.Proofs.YtaicipldjmngaaaGreatDoor.db

namespace Go.Proofs.YtaicipldjmngaaaGreatDoor.dr
end Go.Proofs.YtaicipldjmngaaaGreatDoor.dr
namespace Go.Proofs.YtaicipldjmngaaaGreatDoor.wh
end Go.Proofs.YtaicipldjmngaaaGreatDoor.wh
namespace Go.Proofs.YtaicipldjmngaaaGreatDoor.ro
end Go.Proofs.YtaicipldjmngaaaGreatDoor.ro
namespace Go.Proofs.YtaicipldjmngaaaGreatDoor.ru
end Go.Proofs.YtaicipldjmngaaaGreatDoor.ru
namespace Go.Proofs.YtaicipldjmngaaaGreatDoor.db
end Go.Proofs.YtaicipldjmngaaaGreatDoor.db
namespace Go.Proofs.YtaicipldjmngaaaGreatDoor.pr
end Go.Proofs.YtaicipldjmngaaaGreatDoor.pr
namespace Go.Proofs.YtaicipldjmngaaaGreatDoor.sp
end Go.Proofs.YtaicipldjmngaaaGreatDoor.sp
namespace Go.Proofs.YtaicipldjmngaaaGreatDoor.sw
open Go.Proofs.YtaicipldjmngaaaGreatDoor.dr Go.Proofs.YtaicipldjmngaaaGreatDoor.wh Go.Proofs.YtaicipldjmngaaaGreatDoor.ro Go.Proofs.YtaicipldjmngaaaGreatDoor.ru Go.Proofs.YtaicipldjmngaaaGreatDoor.db Go.Proofs.YtaicipldjmngaaaGreatDoor.pr Go.Proofs.YtaicipldjmngaaaGreatDoor.sp
open Go.RowKit Go.Maps
set_option linter.unusedVariables false
set_option linter.unusedSimpArgs false
theorem PcN.other {v : Nv} {l : Nat → Nat} {w : World} {s s' : Sw} {x : Nc} (h : PcN v l w s x) (h1 : s'.c = s.c) (h2 : s'.ro = s.ro) (h3 : s'.seq = s.seq) (h4 : s'.last = s.last) (h5 : s'.stuck = s.stuck) (h6 : s'.cur = s.cur) (h7 : s'.rel = s.rel) (h8 : s'.q = s.q) (h9 : s'.out = s.out) : PcN v l w s' x := by
  have ho : s'.own = s.own := by unfold Sw.own; rw [h2]
  exact ⟨h.lB, by rw [h1, ho]; exact h.blk, by rw [h3]; exact h.seq, by rw [h4]; exact h.last, by rw [h5]; exact h.st, by rw [h6]; exact h.cur, by rw [h7]; exact h.rel, by rw [h8]; exact h.ev, by rw [ho, h9]; exact h.out⟩
section
variable {v : Nv} {l : Nat → Nat} {w w' : World} {s : Sw} {x : Nc}
theorem no_part {n m : Nat} (h : n ≠ m) {T : Nat → Prop} (hT : ∀ k, k < w.heap.size → T k → l k = n) : ∀ k, k < w.heap.size → T k → l k ≠ m := fun k hk e he => h ((hT k hk e).symm.trans he)
theorem goes_part {n : Nat} (hn : mutl n) {T : Nat → Prop} (hb : But T w w') (hT : ∀ k, k < w.heap.size → T k → l k = n) (m : Nat) : Goes l (lab l w.heap.size w'.heap.size m) w w' := Goes.part hb n m (fun k hk e => by rw [hT k hk e]; exact hn)
theorem goes_same {n : Nat} (hn : mutl n) {T : Nat → Prop} (hb : But T w w') (hT : ∀ k, k < w.heap.size → T k → l k = n) : Goes l l w w' :=
  ⟨⟨hb.os, hb.tape, hb.output, hb.size, fun k hk hne => hb.block k hk (fun e => hne (by rw [hT k hk e]; exact hn))⟩, fun _ _ => ⟨id, id⟩⟩
theorem NdX.partQ (h : NdX v l w s x) {q : ru.Qu} (hb : But (fun k => k = v.Bq ∨ k = v.Mq) w w') (hq : ru.QuAt w' v.Bq v.Mq q) (hc : s.q.clock ≤ q.clock) : NdX v l w' { s with q := q } x ∧ Goes l l w w' := by
  have hT : ∀ k, k < w.heap.size → (k = v.Bq ∨ k = v.Mq) → l k = 2 := fun k _ e => by rcases e with e | e <;> rw [e]; exact h.q.lB; exact h.q.lM
  have hl : ∀ k, k < w.heap.size → l k = l k := fun _ _ => rfl
  refine ⟨⟨fun k hk => Nat.lt_of_lt_of_le (h.lt k hk) hb.size, h.r.keep hb (no_part (by decide) hT) hl, ⟨h.q.lB, h.q.lM, hq⟩, h.wh.keep hb (no_part (by decide) hT) hl, h.g.keep hb (fun k hk e => ⟨no_part (by decide) hT k hk e, no_part (by decide) hT k hk e⟩) hl,
    h.d.keep hb (fun k hk e => ⟨no_part (by decide) hT k hk e, by rw [hT k hk e]; decide⟩) hl, ?_⟩, goes_same (by unfold mutl; decide) hb hT⟩
  have h1 := h.n.keep hb (fun k hk e => ⟨no_part (by decide) hT k hk e, no_part (by decide) hT k hk e, no_part (by decide) hT k hk e, no_part (by decide) hT k hk e⟩) hl h.lt
  obtain ⟨L, h2, h3⟩ := h1.ev.row
  exact ⟨h1.lB, h1.blk, h1.seq, h1.last, h1.st, h1.cur, h1.rel, ⟨⟨L, Nat.le_trans h2 hc, h3⟩, h1.ev.lab⟩, h1.out⟩
def WhS (l : Nat → Nat) (w : World) (k : Nat) : Prop := l k = 3 ∨ w.heap.size ≤ k
theorem NdX.whAt (h : NdX v l w s x) : wh.WhAt (WhS l w) w v.Bw s.wh := h.wh.at_.mono (fun k _ e => .inl e)
theorem WhS.up (l : Nat → Nat) (w : World) : ∀ k, w.heap.size ≤ k → WhS l w k := fun k hk => .inr hk
theorem NdX.partW (h : NdX v l w s x) {t : wh.St} (hk : wh.Kept (WhS l w) w w') {S : Nat → Prop} (hw : wh.WhAt S w' v.Bw t) (hS : ∀ k, S k → WhS l w k) : NdX v (lab l w.heap.size w'.heap.size 3) w' { s with wh := t } x ∧ Goes l (lab l w.heap.size w'.heap.size 3) w w' := by
  have hb := hk.1
  have hT : ∀ k, k < w.heap.size → WhS l w k → l k = 3 := fun k hk e => by rcases e with e | e; exact e; omega
  obtain ⟨hl, hlt⟩ := labs h.lt hb 3
  refine ⟨⟨hlt, h.r.keep hb (no_part (by decide) hT) hl, h.q.keep hb (no_part (by decide) hT) hl, ⟨hw.mono (fun k hk e => ?_)⟩, h.g.keep hb (fun k hk e => ⟨no_part (by decide) hT k hk e, no_part (by decide) hT k hk e⟩) hl,
    h.d.keep hb (fun k hk e => ⟨no_part (by decide) hT k hk e, by rw [hT k hk e]; decide⟩) hl, ?_⟩, goes_part (by unfold mutl; decide) hb hT 3⟩
  · rcases hS k e with e | e
    · by_cases hlt : k < w.heap.size
      · rw [lab_old l hlt]; exact e
      · exact lab_new l (Nat.le_of_not_lt hlt) hk
    · exact lab_new l e hk
  · exact (h.n.keep hb (fun k hk e => ⟨no_part (by decide) hT k hk e, no_part (by decide) hT k hk e, no_part (by decide) hT k hk e, no_part (by decide) hT k hk e⟩) hl h.lt).other rfl rfl rfl rfl rfl rfl rfl rfl rfl
theorem tgt_ptr {b k : Nat} : dr.Tgt (.pointer (some ⟨b, 0, none⟩)) k ↔ b = k := by
  unfold dr.Tgt
  simp
theorem Sg.lt (l : Nat → Nat) (w : World) : ∀ k, Sg l w k → k < w.heap.size := fun k h => h.1
end
end Go.Proofs.YtaicipldjmngaaaGreatDoor.sw
