/-
  A packet is added: fly of the program's flight, Send of the document's (layer 7).
-/
import Derived.Test.YticjkpnlnonibaaHFly
namespace Go.Proofs.Yticjkpnlnonibaa
open Go.RowKit
set_option linter.unusedSimpArgs false
set_option linter.unusedVariables false

def Pk.at_ (p : Pk) (A : Option Addr) (c : Nat) : Pk := ⟨p.fr, p.to, p.body, A, c⟩
theorem Pk.at_strip (p : Pk) (A : Option Addr) (c : Nat) : (p.at_ A c).strip = p.strip := rfl
/-- What adding leaves. -/
def Flown (w : World) (B : Nat) (v : Value) (s : Fl) (p : Pk) (w' : World) : Prop :=
  ∃ A c v', FlAt w' B v' (s.fly (p.at_ A c)) ∧ Fresh w.heap.size (p.at_ A c) ∧ But (Sof B v) w w' ∧ ∀ b, v'.ownBlock = some b → v.ownBlock = some b ∨ w.heap.size ≤ b
theorem fly_any (w : World) (B : Nat) (v : Value) (s : Fl) (p : Pk) (h : FlAt w B v s) (hp : BodyAt w p) (ho : Outs (Sof B v) p) (hs : s.sent < 1099511627775) (hf : s.full = false) (hb : p.body.length ≤ 1400) :
    Calls Try.prog 27 #[.pointer (some ⟨B, 0, none⟩), .agg #[.int .i64 p.fr, .int .i64 p.to, .slice p.A p.body.length p.c]] w fun e w' => e = .returned (.int .i64 ((s.sent + 1 : Nat) : Int)) ∧ Flown w B v s p w' := by
  have hlen := h.ok.len
  have hmost := h.ok.most
  have hB := h.lt
  obtain ⟨W0, hW0⟩ : ∃ W0, w.alloc (.cells #[.int .i64 p.fr, .int .i64 p.to, .slice p.A p.body.length p.c] 30) = W0 := ⟨_, rfl⟩
  have hal : Below w.heap.size w W0 := by rw [← hW0]; exact (Below.refl _ w).alloc (Nat.le_refl _) _
  have hbx : W0.heap[w.heap.size]? = some (.cells #[.int .i64 p.fr, .int .i64 p.to, .slice p.A p.body.length p.c] 30 (0, 0)) := by rw [← hW0]; exact heap_alloc_new w _
  have h0 := h.below hal
  obtain ⟨c0, c1, c2⟩ := h0.cells
  obtain ⟨W1, hW1⟩ : ∃ W1, W0.setCell ⟨B, 2, none⟩ (.int .i64 ((s.sent + 1 : Nat) : Int)) = W1 := ⟨_, rfl⟩
  have hset : But (· = B) W0 W1 := by rw [← hW1]; exact But.set (S := (· = B)) W0 (p := ⟨B, 2, none⟩) rfl _
  have hsz1 : W1.heap.size = W0.heap.size := by rw [← hW1]; simp [World.setCell]
  have hblk1 : W1.heap[B]? = some (.cells #[v, .int .i64 (s.most : Int), .int .i64 ((s.sent + 1 : Nat) : Int)] 58 (0, 0)) := by rw [← hW1]; exact block_set h0.blk 2 _
  have hbx1 := (hset.block w.heap.size (block_lt hbx) (fun e => by omega)).trans hbx
  have hrow1 : itRow W1 0 v s.L := h0.row.but hset (fun b e e2 => h0.rowB (by rw [← e2]; exact e))
  have hp1 : BodyAt W1 p := (hp.below hal).but hset (fun b off e hn e2 => ho b off e hn (.inl e2))
  have hwW1 : But (Sof B v) w W1 := (But.of_below hal).trans (hset.mono (fun i e => .inl e))
  refine fly_walk w W0 W1 B (s.sent + 1) p hW0 (Flown w B v s p) (Lib.hid ?_) (Lib.hid ?_) (Lib.hid ?_)
  · have := add_any W0 B s.sent (by omega) c2 (h0.froz 2)
    rw [hW1] at this
    exact this
  · intro w' hb
    exact (hb.block _ (block_lt hbx1)).trans hbx1
  · intro w1 hb1
    obtain ⟨W2, hW2⟩ : ∃ W2, w1.alloc (.cells #[.int .i64 p.fr, .int .i64 p.to, .slice p.A p.body.length p.c] 30) = W2 := ⟨_, rfl⟩
    have hal2 : Below w1.heap.size w1 W2 := by rw [← hW2]; exact (Below.refl _ w1).alloc (Nat.le_refl _) _
    have hb2 : Below W1.heap.size W1 W2 := hb1.trans (hal2.mono hb1.size)
    have hwW2 : But (Sof B v) w W2 := hwW1.trans (But.of_below hb2)
    have hok : Ap.ok ⟨W2, B, #[v, .int .i64 (s.most : Int), .int .i64 ((s.sent + 1 : Nat) : Int)], 58, v, s.L, s.sent + 1, p, fun A c w' => BodyAt w' (p.at_ A c) ∧ Typed w' (p.at_ A c) ∧ Fresh W2.heap.size (p.at_ A c)⟩ := by
      refine ⟨hrow1.below hb2, (hb2.block B (block_lt hblk1)).trans hblk1, by show 58 ≠ TF; decide, by show s.L.length ≤ 256; omega, ?_⟩
      rintro A c w3 w4 ⟨g1, g2, g3⟩ hbS
      have hout : Outs (Ap.S ⟨W2, B, #[v, .int .i64 (s.most : Int), .int .i64 ((s.sent + 1 : Nat) : Int)], 58, v, s.L, s.sent + 1, p, fun A c w' => BodyAt w' (p.at_ A c) ∧ Typed w' (p.at_ A c) ∧ Fresh W2.heap.size (p.at_ A c)⟩) (p.at_ A c) := fun b off e hn hs => by
        have h1 := g3 b off e
        have h2 : b < W2.heap.size := hs.2
        omega
      exact ⟨g1.but hbS hout, g2.but hbS hout, g3⟩
    refine (add_walk _ hok (Lib.hid rfl) w1 hW2 (Lib.hid ?_)).mono ?_
    · intro w3 hb3
      refine (own_any w3 p ((hp1.below hb2).below hb3)).mono ?_
      rintro e w4 ⟨A, c, rfl, g1, g2, g3, g4⟩
      exact ⟨A, c, rfl, ⟨g1, g2, fun b off e => Nat.le_trans hb3.size (g3 b off e)⟩, g4⟩
    · rintro e w' ⟨rfl, v', ⟨A, c, ⟨g1, g2, g3⟩, hrow⟩, hblk, hbut, hloc⟩
      have hB' : But (Sof B v) w w' := hwW2.trans hbut
      refine ⟨rfl, A, c, v', h.turn hB' hblk hrow ?_ (h.ok.fly hf hb), fun b off e => Nat.le_trans hwW2.size (g3 b off e), hB', fun b e => ?_⟩
      · intro x hx
        rcases List.mem_append.1 hx with h1 | h1
        · exact .inl h1
        · obtain rfl := List.mem_singleton.1 h1
          exact .inr ⟨g1, g2⟩
      · rcases hloc b e with h1 | h1
        · exact .inl h1
        · exact .inr (Nat.le_trans hwW2.size h1)
/-- What Send of the document's leaves. -/
def RFlown (base : Nat) (w : World) (B : Nat) (v : Value) (s : Fl) (p : Pk) (w' : World) : Prop :=
  ∃ v', RfAt base w' B v' (s.fly p) ∧ But (Sof B v) w w' ∧ ∀ b, v'.ownBlock = some b → v.ownBlock = some b ∨ w.heap.size ≤ b
theorem itRow.base {w : World} {base : Nat} {v : Value} {l : List It} (h : itRow w 0 v l) (hb : ∀ b, v.ownBlock = some b → base ≤ b) : itRow w base v l :=
  ⟨h.1, h.2.imp id fun ⟨g, cap, cur, h1, h2, h3⟩ => ⟨g, cap, cur, h1, hb g (by rw [h1]; rfl), h3⟩⟩
theorem rsend_yes (base : Nat) (w : World) (B : Nat) (v : Value) (s : Fl) (p : Pk) (h : RfAt base w B v s) (hbase : base ≤ w.heap.size) (hp : BodyAt w p) (ho : Outs (fun k => base ≤ k) p) (hs : s.sent < 1099511627775) (hf : s.full = false) (hb : p.body.length ≤ 1400) :
    Calls Try.prog 21 #[.pointer (some ⟨B, 0, none⟩), .agg #[.int .i64 p.fr, .int .i64 p.to, .slice p.A p.body.length p.c]] w fun e w' => e = .returned (.tuple #[.int .i64 ((s.sent + 1 : Nat) : Int), .bool true]) ∧ RFlown base w B v s p w' := by
  have hlen := h.ok.len
  have hmost := h.ok.most
  have hB := h.lt
  obtain ⟨A0, c0, hv, _⟩ := h.row.form
  obtain ⟨W0, hW0⟩ : ∃ W0, w.alloc (.cells #[.int .i64 p.fr, .int .i64 p.to, .slice p.A p.body.length p.c] 30) = W0 := ⟨_, rfl⟩
  have hal : Below w.heap.size w W0 := by rw [← hW0]; exact (Below.refl _ w).alloc (Nat.le_refl _) _
  have h0 := h.below hal
  obtain ⟨b0, b1, b2⟩ := h0.cells
  have hfull : decide (s.most ≤ s.L.length) = false := hf
  refine (rsend_walk B (s.sent + 1) p w W0 A0 s.L.length c0 s.most hW0 (by rw [b0, hv]) (by rw [b1]; congr 2; omega) b2 (h0.froz 1) hfull hb (by omega) (by omega) (fun v' w' => RfAt base w' B v' (s.fly p) ∧ But (Sof B v) w w' ∧ ∀ b, v'.ownBlock = some b → v.ownBlock = some b ∨ w.heap.size ≤ b) (Lib.hid ?_)).mono (fun e w' ⟨he, v', hP⟩ => ⟨he, v', hP⟩)
  intro q
  obtain ⟨W1, hW1⟩ : ∃ W1, (W0.drewN q).setCell ⟨B, 1, none⟩ (.int .i64 ((s.sent + 1 : Nat) : Int)) = W1 := ⟨_, rfl⟩
  have hset : But (· = B) W0 W1 := by rw [← hW1]; exact ((But.refl (S := (· = B)) W0).drewN q).trans (But.set (S := (· = B)) (W0.drewN q) (p := ⟨B, 1, none⟩) rfl _)
  have hblk1 : W1.heap[B]? = some (.cells #[v, .int .i64 ((s.sent + 1 : Nat) : Int), .int .i64 (s.most : Int)] 62 (0, 0)) := by
    rw [← hW1]
    exact block_set (w := W0.drewN q) h0.blk 1 _
  have hrow1 : itRow W1 base v s.L := h0.row.but hset (fun b e e2 => h0.rowB (by rw [← e2]; exact e))
  have hwW1 : But (Sof B v) w W1 := (But.of_below hal).trans (hset.mono (fun i e => .inl e))
  refine ⟨⟨W1, B, #[v, .int .i64 ((s.sent + 1 : Nat) : Int), .int .i64 (s.most : Int)], 62, v, s.L, s.sent + 1, p, fun A c _ => A = p.A ∧ c = p.c⟩, rfl, rfl, rfl, hW1, ⟨hrow1.zero, hblk1, by show 62 ≠ TF; decide, by show s.L.length ≤ 256; omega, fun A c w w' h _ => h⟩, rfl, rfl, fun _ => ⟨rfl, rfl⟩, fun _ _ _ h => h, ?_⟩
  rintro v' w' ⟨⟨A, c, ⟨rfl, rfl⟩, hrow⟩, hblk, hbut, hloc⟩
  have hB' : But (Sof B v) w w' := hwW1.trans hbut
  have hloc' : ∀ b, v'.ownBlock = some b → v.ownBlock = some b ∨ w.heap.size ≤ b := fun b e => by
    rcases hloc b e with h1 | h1
    · exact .inl h1
    · exact .inr (Nat.le_trans hwW1.size h1)
  refine ⟨⟨⟨hblk, itRow.base hrow (fun b e => ?_), fun x hx => ?_, h.ge, h.ok.fly hf hb⟩, hB', hloc'⟩, blk_cells hblk 1 _ rfl⟩
  · rcases hloc' b e with h1 | h1
    · exact h.row.ge h1
    · omega
  · have hsub : ∀ k, Sof B v k → base ≤ k := fun k hk => h.geS hk
    rcases List.mem_append.1 hx with h1 | h1
    · exact ⟨(h.body x h1).1.but hB' (fun b off e hn hs => (h.body x h1).2 b off e hn (hsub b hs)), (h.body x h1).2⟩
    · obtain rfl := List.mem_singleton.1 h1
      exact ⟨hp.but hB' (fun b off e hn hs => ho b off e hn (hsub b hs)), ho⟩
end Go.Proofs.Yticjkpnlnonibaa
