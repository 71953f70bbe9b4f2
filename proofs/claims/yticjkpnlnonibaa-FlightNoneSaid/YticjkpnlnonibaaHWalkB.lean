/-
  A copy of a packet's bytes, a packet with bytes of its own (layer 7).
-/
import Derived.Test.YticjkpnlnonibaaHWalkA
import Derived.Lib.SliceRun
import Derived.Laws.ResultCell
namespace Go.Proofs.Yticjkpnlnonibaa
open Go.RowKit
set_option linter.unusedSimpArgs false

theorem u8_info : (Try.prog.info? 5).map (fun i => (i.zero, i.size, i.bytes)) = some (some (.int .u8 0), 1, 1) := by kernel_rfl
theorem byteV_one (l : List UInt8) : ∀ u ∈ l.map byteV, u.oneCell' = true := fun u hu => by
  obtain ⟨x, _, rfl⟩ := List.mem_map.1 hu
  rfl
theorem blk_froz {w : World} {B : Nat} {cur : Array Value} {t : TypeId} (h : w.heap[B]? = some (.cells cur t (0, 0))) (i : Nat) : w.frozen? ⟨B, i, none⟩ = false := by simp [World.frozen?, h]
theorem blk3 {w : World} {B : Nat} {a b c : Value} {t : TypeId} (h : w.heap[B]? = some (.cells #[a, b, c] t (0, 0))) : w.cell? ⟨B, 0, none⟩ = some a ∧ w.cell? ⟨B, 1, none⟩ = some b ∧ w.cell? ⟨B, 2, none⟩ = some c :=
  ⟨blk_cells h 0 _ rfl, blk_cells h 1 _ rfl, blk_cells h 2 _ rfl⟩
theorem blk4 {w : World} {B : Nat} {a b c d : Value} {t : TypeId} (h : w.heap[B]? = some (.cells #[a, b, c, d] t (0, 0))) : w.cell? ⟨B, 0, none⟩ = some a ∧ w.cell? ⟨B, 1, none⟩ = some b ∧ w.cell? ⟨B, 2, none⟩ = some c ∧ w.cell? ⟨B, 3, none⟩ = some d :=
  ⟨blk_cells h 0 _ rfl, blk_cells h 1 _ rfl, blk_cells h 2 _ rfl, blk_cells h 3 _ rfl⟩
/-- The packet p with its bytes anew. -/
def Anew (w : World) (p : Pk) (A : Option Addr) (c : Nat) (w' : World) : Prop :=
  BodyAt w' ⟨p.fr, p.to, p.body, A, c⟩ ∧ Typed w' ⟨p.fr, p.to, p.body, A, c⟩ ∧ Fresh w.heap.size ⟨p.fr, p.to, p.body, A, c⟩ ∧ Below w.heap.size w w'
theorem row_typed {w : World} {base : Nat} {p : Pk} {A : Option Addr} {c : Nat} {n : Nat} (hn : p.body.length = n) (h : w.ownsRow base 5 1 (.slice A n c) n (p.body.map byteV)) (hl : p.body.length ≤ 140737488351232) :
    BodyAt w ⟨p.fr, p.to, p.body, A, c⟩ ∧ Typed w ⟨p.fr, p.to, p.body, A, c⟩ ∧ Fresh base ⟨p.fr, p.to, p.body, A, c⟩ := by
  subst hn
  obtain ⟨A', c', e, hR, h1, h2, _, h3⟩ := RV.own h
  simp only [Value.slice.injEq, true_and] at e
  obtain ⟨rfl, rfl⟩ := e
  refine ⟨⟨hR, h2, h1, hl⟩, fun hn => ?_, h3⟩
  rcases h.2 with ⟨e, _⟩ | ⟨g, cap, cur, e, _, hh, _⟩
  · simp only [Value.slice.injEq] at e
    have : p.body.length = 0 := e.2.1
    simp only at hn
    omega
  · simp only [Value.slice.injEq] at e
    exact ⟨g, 0, cur, e.1, hh⟩
theorem own_lens {w : World} {base : Nat} {e : TypeId} {sz : Nat} {v : Value} {n : Nat} {xs : List Value} (h : w.ownsRow base e sz v n xs) : ∃ A c, v = .slice A n c := by
  rcases h.2 with ⟨rfl, rfl⟩ | ⟨g, cap, cur, rfl, _⟩
  · exact ⟨none, 0, rfl⟩
  · exact ⟨_, _, rfl⟩
set_option maxHeartbeats 1000000 in
theorem clone_any (w : World) (p : Pk) (hb : BodyAt w p) :
    Calls Try.prog 43 #[.slice p.A p.body.length p.c] w fun e w' => ∃ A c, e = .returned (.slice A p.body.length c) ∧ Anew w p A c w' := by
  obtain ⟨i0, hi, hz0, hz1, hz2⟩ := info_parts u8_info
  obtain ⟨hR, hlc, hnil, hbig⟩ := hb
  have q28 : ∀ (w : World) (a : Option Addr) (n c n' c' : Nat), (binOp .eql 28 (.slice a n c) (.slice none n' c')).run Try.prog w = .ok (.bool a.isNone) w := fun w a n c n' c' => Lib.run_eql_slice_nil w _ _ a n c n' c' Try.underlying28
  obtain ⟨n, hn⟩ : ∃ n, p.body.length = n := ⟨_, rfl⟩
  have HN := Lib.hid hn
  rw [hn] at hR hlc hbig ⊢
  obtain ⟨A, hA⟩ : ∃ A, p.A = A := ⟨_, rfl⟩
  obtain ⟨c, hc⟩ : ∃ c, p.c = c := ⟨_, rfl⟩
  rw [hA, hc] at hnil ⊢
  rw [hA] at hR
  clear hA hc hlc
  cases A with
  | none =>
    obtain rfl := hnil rfl
    have h0 : n = 0 := by
      rcases Nat.eq_zero_or_pos n with h | h
      · exact h
      · obtain ⟨b, off, e, _⟩ := hR.2 h; cases e
    subst h0
    clear hR hnil hn
    go_enter Try.func43, Try.ntmps43
    go_wp2
    go_ret
    have h0 := HN.out
    obtain ⟨fr, to, body, A, c⟩ := p
    obtain rfl : body = [] := List.eq_nil_of_length_eq_zero h0
    exact ⟨none, 0, rfl, ⟨RV.zero _ _, Nat.le_refl _, fun _ => rfl, Nat.zero_le _⟩, fun h => absurd h (Nat.lt_irrefl _), (fun b off e => by cases e), Below.refl _ _⟩
  | some ad =>
    have HR := Lib.hid hR
    clear hR hnil hn
    go_enter Try.func43, Try.ntmps43
    go_wp2_with (at_builtin; refine wpList_append_rv rfl _ _ 28 rfl w.heap.size 5 i0 (.int .u8 0) 1 Try.underlying28 hi hz0 hz1 hz2 rfl _ 0 [] rfl ?qa (some ad) n c (p.body.map byteV) rfl ?qb ?qc (byteV_one _) ?qd ?qe ?qf ?_)
    case qa => exact World.ownsRow_made w #[] 0 (Nat.le_refl _) (Nat.zero_le _) (by simp)
    case qb => intro e; cases e
    case qc => exact HR.out.below ((Below.refl _ _).alloc (Nat.le_refl _) _)
    case qd => unfold maxLen; omega
    case qe => omega
    case qf => simp
    refine Lib.hid ?_
    intro v' w' hown hg
    obtain ⟨A', c', rfl⟩ := own_lens hown
    obtain ⟨h1, h2, h3⟩ := row_typed HN.out hown (by rw [HN.out]; exact hbig)
    have H1 := Lib.hid h1
    have H2 := Lib.hid h2
    have H3 := Lib.hid h3
    have HG := Lib.hid hg
    clear h1 h2 h3 hg hown
    go_wp2
    go_ret
    refine ⟨A', c', rfl, H1.out, H2.out, H3.out, ?_⟩
    exact ((Below.refl _ w).alloc (Nat.le_refl _) _).grown HG.out (by simp) (by intro k hk; simp [Value.ownBlock] at hk; omega)
set_option maxHeartbeats 1000000 in
theorem own_any (w : World) (p : Pk) (hb : BodyAt w p) :
    Calls Try.prog 40 #[.agg #[.int .i64 p.fr, .int .i64 p.to, .slice p.A p.body.length p.c]] w fun e w' => ∃ A c, e = .returned (.agg #[.int .i64 p.fr, .int .i64 p.to, .slice A p.body.length c]) ∧ Anew w p A c w' := by
  obtain ⟨W0, hW0⟩ : ∃ W0, (w.alloc (.cells #[.int .i64 p.fr, .int .i64 p.to, .slice p.A p.body.length p.c] 30)).alloc (.cells #[.int .i64 0, .int .i64 0, .slice none 0 0] 30) = W0 := ⟨_, rfl⟩
  have h1 : W0.heap[w.heap.size]? = some (.cells #[.int .i64 p.fr, .int .i64 p.to, .slice p.A p.body.length p.c] 30 (0, 0)) := by
    rw [← hW0, heap_alloc_old _ _ (by simp)]; exact heap_alloc_new w _
  have h2 : W0.heap[w.heap.size + 1]? = some (.cells #[.int .i64 0, .int .i64 0, .slice none 0 0] 30 (0, 0)) := by
    rw [← hW0]
    have := heap_alloc_new (w.alloc (.cells #[.int .i64 p.fr, .int .i64 p.to, .slice p.A p.body.length p.c] 30)) (.cells #[.int .i64 0, .int .i64 0, .slice none 0 0] 30)
    rwa [show (w.alloc (.cells #[.int .i64 p.fr, .int .i64 p.to, .slice p.A p.body.length p.c] 30)).heap.size = w.heap.size + 1 by simp] at this
  have hbel : Below w.heap.size w W0 := by rw [← hW0]; exact ((Below.refl _ w).alloc (Nat.le_refl _) _).alloc (by simp) _
  have hsz : W0.heap.size = w.heap.size + 2 := by rw [← hW0]; simp
  have HC := Lib.hid (clone_any W0 p (hb.below hbel))
  have HBe := Lib.hid hbel
  clear hb hbel
  obtain ⟨n, hn⟩ : ∃ n, p.body.length = n := ⟨_, rfl⟩
  have HN := Lib.hid hn
  rw [hn] at HC h1 hW0 ⊢
  have HW := Lib.hid hW0
  clear hn hW0
  go_enter Try.func40, Try.ntmps40
  go_wp2_with fail
  rw [HW.out]
  refine HC.out.mono ?_
  clear HC HW
  rintro e w' ⟨A, c, rfl, ha⟩
  have h3 := (ha.2.2.2.block w.heap.size (by omega)).trans h1
  have h4 := (ha.2.2.2.block (w.heap.size + 1) (by omega)).trans h2
  have hsz2 := ha.2.2.2.size
  obtain ⟨c0, c1, c2⟩ := blk3 h3
  obtain ⟨d0, d1, d2⟩ := blk3 h4
  have f2 := blk_froz h3 2
  have g0 := blk_froz h4 0
  have g1 := blk_froz h4 1
  have g2 := blk_froz h4 2
  have HA := Lib.hid ha
  clear ha h1 h2 h3 h4
  go_wp2
  refine bodyPost_ret (v := .agg #[.int .i64 p.fr, .int .i64 p.to, .slice A n c]) (by simp [results, Try.results40, go_sem, d0, d1, d2]) rfl ?_
  obtain ⟨k1, k2, k3, k4⟩ := HA.out
  have hb1 : But (fun k => k = w.heap.size ∨ k = w.heap.size + 1) w' ((((w'.setCell ⟨w.heap.size, 2, none⟩ (.slice A n c)).setCell ⟨w.heap.size + 1, 0, none⟩ (.int .i64 p.fr)).setCell ⟨w.heap.size + 1, 1, none⟩ (.int .i64 p.to)).setCell ⟨w.heap.size + 1, 2, none⟩ (.slice A n c)) :=
    (((But.set _ (p := ⟨w.heap.size, 2, none⟩) (.inl rfl) _).trans (But.set _ (p := ⟨w.heap.size + 1, 0, none⟩) (.inr rfl) _)).trans (But.set _ (p := ⟨w.heap.size + 1, 1, none⟩) (.inr rfl) _)).trans (But.set _ (p := ⟨w.heap.size + 1, 2, none⟩) (.inr rfl) _)
  have ho : Outs (fun k => k = w.heap.size ∨ k = w.heap.size + 1) ⟨p.fr, p.to, p.body, A, c⟩ := fun b off e hn hs => by
    have := k3 b off e
    rcases hs with rfl | rfl <;> omega
  refine ⟨A, c, rfl, k1.but hb1 ho, k2.but hb1 ho, fun b off e => ?_, ?_⟩
  · have := k3 b off e; omega
  · exact HBe.out.trans ((But.of_below (S := fun k => k = w.heap.size ∨ k = w.heap.size + 1) k4).trans hb1 |>.below (by omega) (fun k hk hs => by rcases hs with rfl | rfl <;> omega))
end Go.Proofs.Yticjkpnlnonibaa
