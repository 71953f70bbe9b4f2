/-
  works() of the law of layer 3.
-/
import Derived.Test.YtjbemjnofnifaaaZj41
import Derived.Lib.SlBytesConst
import Derived.RangeFuncNested
namespace Go.Proofs.Ytjbemjnofnifaaa
open Go.RowKit
set_option linter.unusedSimpArgs false

def fAB : Fr := ⟨7, [65, 66]⟩
theorem okAB : okF fAB := ⟨by decide, by simp [fAB]⟩
theorem rb_AB (w : World) (t : TypeId) : BodyAt (w.alloc (.cells #[.int .u8 65, .int .u8 66] t (2, 3))) (some ⟨w.heap.size, 0, none⟩) 2 [65, 66] := by
  refine ⟨⟨rfl, fun _ => ⟨_, _, rfl, by simp, fun j hj => ?_⟩⟩, Nat.le_refl _, (fun e => by cases e), by simp⟩
  rw [cell_of_row _ w.heap.size _ _ _ (2, 3) (heap_alloc_new w _)]
  have hj2 : j < 2 := hj
  match j, hj2 with
  | 0, _ | 1, _ => rfl

end Go.Proofs.Ytjbemjnofnifaaa

/-
  Pack, walked (layer 3).
-/
namespace Go.Proofs.Ytjbemjnofnifaaa
open Go.RowKit
set_option linter.unusedSimpArgs false

def PackPost (w : World) (fs : List Fr) (e : Ending) (w' : World) : Prop :=
  Below w.heap.size w w' ∧ ((errPack fs ≠ 0 ∧ e = .returned (.tuple #[.slice none 0 0, .int .i64 (errPack fs : Int)])) ∨
    (errPack fs = 0 ∧ ∃ A c, e = .returned (.tuple #[.slice A (encs fs).length c, .int .i64 0]) ∧ RB w' A (encs fs).length (encs fs) ∧ (A = none → c = 0) ∧ (encs fs).length ≤ c))
theorem encs_take_le {fs : List Fr} (h : ∀ f ∈ fs, okF f) (hl : fs.length ≤ 32) (k : Nat) : (encs (fs.take k)).length ≤ 32224 := by
  have : ∀ gs : List Fr, (∀ f ∈ gs, okF f) → (encs gs).length ≤ 1007 * gs.length := by
    intro gs
    induction gs with
    | nil => intro _; simp [encs]
    | cons g gs ih =>
      intro hg
      have h1 := (hg g (by simp)).2
      have h2 := ih (fun f hf => hg f (by simp [hf]))
      rw [encs_cons, List.length_append, encF_length, List.length_cons]
      omega
  have h1 := this (fs.take k) (fun f hf => h f (List.mem_of_mem_take hf))
  have h2 : (fs.take k).length ≤ 32 := by rw [List.length_take]; omega
  omega

set_option maxHeartbeats 4000000 in
theorem pack_any (A : Option Addr) (n c : Nat) (fs : List Fr) (w : World) (hR : RFs w A n fs) (hn : n ≤ 4398046511104) : Calls Try.prog 39 #[.slice A n c] w (PackPost w fs) := by
  have HR := Lib.hid hR
  have HL := Lib.hid hR.1
  have S2 := Lib.hid (fun (g : Nat) (w1 : World) (hg : HasF w1 g) (hb : Below w.heap.size w w1) => faultF_any g n c A fs w1 hg (hR.below hb) (by omega))
  clear hR
  obtain ⟨E, hE⟩ : ∃ E, errsF fs = E := ⟨_, rfl⟩
  rw [hE] at S2
  have HE := Lib.hid hE
  obtain ⟨g0, hg0⟩ : ∃ g, w.heap.size = g := ⟨_, rfl⟩
  clear hE
  go_enter Try.func39, Try.ntmps39
  go_wp2_with fail
  refine (ofFrame_any w).mono ?_
  rw [hg0]
  rintro e w1 ⟨rfl, hg, hb⟩
  have hb' : Below w.heap.size w w1 := by rw [hg0]; exact hb
  have s2 := S2.out g0 w1 hg hb'
  have HB1 := Lib.hid hb'
  clear hb hb' hg
  go_wp2_with fail
  refine s2.mono ?_
  rintro e w2 ⟨rfl, hb2⟩
  have HB2 : Hid (Below w.heap.size w w2) := Lib.hid (HB1.out.trans (hb2.mono HB1.out.size))
  clear s2 hb2
  by_cases hE0 : E = 0
  · subst hE0
    by_cases h32 : n = 0 ∨ 32 < n
    · have HEP : Hid (errPack fs = 5) := Lib.hid (by unfold errPack; rw [if_neg (by simp [HE.out]), if_pos (by rw [HL.out]; exact h32)])
      rcases h32 with h0 | h0
      · subst h0
        clear hg0
        go_wp2
        go_ret2
        exact ⟨HB2.out, .inl ⟨by rw [HEP.out]; omega, by rw [HEP.out]; rfl⟩⟩
      · have q0 : ((n : Int) == 0) = false := by rw [beq_eq_false_iff_ne]; omega
        have q1 : (32 : Int) < (n : Int) := by omega
        clear hg0
        go_wp2
        go_ret2
        exact ⟨HB2.out, .inl ⟨by rw [HEP.out]; omega, by rw [HEP.out]; rfl⟩⟩
    · have h1 : 0 < n := by omega
      have h2 : n ≤ 32 := by omega
      have HOk : Hid (∀ f ∈ fs, okF f) := Lib.hid (errsF_zero.1 HE.out)
      have HEP : Hid (errPack fs = if 1400 < (encs fs).length then 5 else 0) := Lib.hid (by unfold errPack; rw [if_neg (by simp [HE.out]), if_neg (by rw [HL.out]; exact h32)])
      have q0 : ((n : Int) == 0) = false := by rw [beq_eq_false_iff_ne]; omega
      have q1 : (n : Int) ≤ 32 := by omega
      clear h32
      go_wp2
      rw [hg0] at HB2
      go_loopw [5, 24] (fun v i wr => ∃ k : Nat, k ≤ n ∧ i = .int .i64 k ∧ Hid (wr.ownsRow g0 5 1 v (encs (fs.take k)).length ((encs (fs.take k)).map byteV)) ∧ Hid (Below g0 w wr)) (fun _ i _ => n - (intOf i).toNat)
      case atStart => exact ⟨0, Nat.zero_le _, rfl, Lib.hid (World.ownsRow_nil _ _ _ _), HB2⟩
      case round =>
        obtain ⟨k, hk, rfl, hown, hbw⟩ := hrel
        obtain ⟨Bv, dv, rfl, hrb, hnl, hle, _⟩ := RB.own hown.out
        have hl32 := encs_take_le HOk.out (by rw [HL.out]; exact h2) k
        obtain ⟨L, hL⟩ : ∃ L, (encs (fs.take k)).length = L := ⟨_, rfl⟩
        rw [hL] at hown hrb hle hl32 ⊢
        have HLL := Lib.hid hL
        by_cases hlt : k < n
        · have hkl : k < fs.length := by rw [HL.out]; exact hlt
          obtain ⟨b, off, rfl, hb, hat⟩ := HR.out.2 (by omega)
          obtain ⟨f, hf⟩ : ∃ f, fs[k] = f := ⟨_, rfl⟩
          have hfr := hat k hkl
          rw [hf] at hfr
          have hfr2 := hfr.below (by rw [hg0]; exact hbw.out)
          obtain ⟨_, hc0, A1, cA, hc1, hbody1⟩ := hfr
          obtain ⟨_, hc0', A2, cA2, hc1', _⟩ := hfr2
          have hA12 : A2 = A1 ∧ cA2 = cA := by
            have e1 := (hbw.out.cell (p := ⟨b, off + k * 2 + 1, none⟩) (by show b < g0; omega)).trans hc1
            rw [hc1'] at e1
            simp only [Option.some.injEq, Value.slice.injEq] at e1
            exact ⟨e1.1, e1.2.2⟩
          obtain ⟨rfl, rfl⟩ := hA12
          have hokf := HOk.out f (by rw [← hf]; exact List.getElem_mem hkl)
          have hgw := hbw.out.size
          rw [hg0] at hgw
          have S5 := Lib.hid (fun (w5 : World) (hb5 : Below wr.heap.size wr w5) => lay_any w w5 g0 L dv Bv (encs (fs.take k)) (.inl ⟨bown_keep hown.out hb5, ((bown_keep hown.out hb5).lt · · |>.2)⟩) (by rw [hg0]; exact hbw.out.trans (hb5.mono hgw)) (by omega) (Nat.le_trans hgw hb5.size) f A2 cA2 hbody1 hokf.2 (by omega))
          have HT : Hid (encs (fs.take (k + 1)) = encs (fs.take k) ++ encF f) := Lib.hid (by rw [List.take_succ_eq_append_getElem hkl, encs_snoc, hf])
          obtain ⟨ln, hln⟩ : ∃ v : Nat, f.b.length = v := ⟨_, rfl⟩
          unfold frV at S5
          rw [hln] at S5 hc1'
          have HLN := Lib.hid hln
          have HG0 := Lib.hid hg0
          clear hc0 hc1 hbody1 hokf hat hf hrb hnl hL hown hln hg0
          go_wp2_with fail
          refine (S5.out _ ((Below.refl _ wr).alloc (Nat.le_refl _) _)).mono ?_
          rintro e w6 ⟨v6, rfl, hown6, hb6⟩
          have hl6 : L + (ln + 7) = (encs (fs.take (k + 1))).length := by rw [HT.out, List.length_append, encF_length, HLL.out, HLN.out]
          rw [hl6, ← HT.out] at hown6
          have HO6 := Lib.hid hown6
          obtain ⟨A6, c6, rfl, _, _, _, _⟩ := RB.own hown6
          have HB6 : Hid (Below g0 w w6) := Lib.hid (by rw [← HG0.out]; exact hb6)
          clear hown6 hb6 hl6 hc0' hc1'
          go_wp2
          go_roundw
          case rel => exact ⟨k + 1, by omega, by go_num, HO6, HB6⟩
          case measure => simp [intOf]; omega
        · obtain rfl : k = n := by omega
          have htk : fs.take k = fs := List.take_of_length_le (by rw [HL.out]; omega)
          rw [htk] at hown hrb hL
          have HRB := Lib.hid hrb
          have HNL := Lib.hid hnl
          have HLe := Lib.hid hL
          have HBw : Hid (Below w.heap.size w wr) := Lib.hid (by rw [hg0]; exact hbw.out)
          clear hown hrb hnl hL hg0 htk
          by_cases h14 : 1400 < L
          · have HE5 : Hid (errPack fs = 5) := Lib.hid (by rw [HEP.out, if_pos (by rw [HLe.out]; exact h14)])
            have q2 : (1400 : Int) < (L : Int) := by omega
            go_wp2
            go_ret2
            exact ⟨HBw.out, .inl ⟨by rw [HE5.out]; omega, by rw [HE5.out]; rfl⟩⟩
          · have HE5 : Hid (errPack fs = 0) := Lib.hid (by rw [HEP.out, if_neg (by rw [HLe.out]; exact h14)])
            have q2 : (L : Int) ≤ 1400 := by omega
            clear h14
            go_wp2
            go_ret2
            exact ⟨HBw.out, .inr ⟨HE5.out, _, _, by rw [HLe.out]; rfl, by rw [HLe.out]; exact HRB.out, HNL.out, by rw [HLe.out]; exact hle⟩⟩
  · have HEP : Hid (errPack fs = E) := Lib.hid (by unfold errPack; rw [if_pos (by rw [HE.out]; exact hE0), HE.out])
    have e0 : ((E : Int) == 0) = false := by rw [beq_eq_false_iff_ne]; omega
    have e0' : ((E : Int) != 0) = true := by rw [bne_iff_ne]; omega
    have HE0 := Lib.hid hE0
    clear hE0 hg0
    go_wp2
    go_ret2
    exact ⟨HB2.out, .inl ⟨by rw [HEP.out]; exact HE0.out, by rw [HEP.out]; rfl⟩⟩
end Go.Proofs.Ytjbemjnofnifaaa

/-
  A range over a function whose iterator tells something of what it hands out, in the world in which it calls yield (own law, of whatever program): 'R x W'. The kit's forms ask a round at every x in every world; where what is handed out points to memory that the iterator has just made (a frame's body), the round must know what lies there.
-/
namespace Go.Rel
open Go Go.RowKit

section
variable {F : Fence} {n : Nat} {P : Program}

/-- The iterator's contract: rounds are asked at what is R where yield is called. -/
def SeqTells {α : Type} (F : Fence) (n : Nat) (P : Program) (g : Nat) (lb : Array Value) (encs : α → Array Value) (R : α → World → Prop) (Kp : World → World → Prop) (S Sp : List α → Prop) (N : Nat) (w : World) : Prop :=
  ∀ (l : Nat) (J Jx : List α → World → Prop) (W : World), Below w.heap.size w W → AbidesFrom W.heap.size J → AbidesFrom W.heap.size Jx →
    (∀ pre x W1, J pre W1 → R x W1 → pre.length < N → YieldAt F (n - 1) P l (encs x) W1 fun e W' =>
      (e = .returned (.bool true) ∧ J (pre ++ [x]) W' ∧ Kp W1 W') ∨ (e = .returned (.bool false) ∧ Jx (pre ++ [x]) W')) →
    J [] W →
    CallsIn F n P g (#[.func (.yield l) #[] #[]] ++ lb) W fun e W' => (∃ v, e = .returned v) ∧ ((∃ xs, S xs ∧ J xs W') ∨ (∃ pre, Sp pre ∧ Jx pre W'))

variable {w : World}
theorem wpIn_range_tells {α : Type} {g : Operand} {ps : Array Tmp} {assign body : Code} {Q : Exit → Act → World → Prop} {a : Act} {w : World}
    (hro : F.round = none) (h1 : 1 ≤ n) {gf : Nat} {lb : Array Value} (hg : a.eval g = .func (.func gf) #[] lb) (hFg : F.fn gf) (eg : ∀ args w, (callFunc gf args).run P w = .ok (.enter gf args) w)
    {encs : α → Array Value} {R : α → World → Prop} {Kp : World → World → Prop} {S Sp : List α → Prop} {N : Nat} {w0 : World} (hseq : SeqTells F (n - 1) P gf lb encs R Kp S Sp N w0)
    (hKt : ∀ {A B C : World}, Kp A B → Kp B C → Kp A C) (hKb : ∀ (W : World) (l : Nat) (o o' : Obj), w.heap.size ≤ l → W.heap[l]? = some o → o.isCells = false → o.isWalk = false → Kp W (W.putObj l o')) (hb0 : Below w0.heap.size w0 w) (hps : ∀ x, (encs x).size = ps.size)
    (I : List α → World → Prop) (Ix : Code → List α → World → Prop) (hI : OwnFrom w.heap.size I) (hIx : ∀ c, OwnFrom w.heap.size (Ix c)) (h0 : I [] w) (Ax : α → Act → World → Prop) (hAx : ∀ x a', OwnFrom w.heap.size (fun (_ : Unit) W => Ax x a' W))
    (hassign : ∀ (l : Nat) (pre : List α) (x : α) (W : World) (K : Act → World → Prop), I pre W → R x W → (∀ a' W', KeepsFrom w.heap.size W W' → Kp W W' → I pre W' → Ax x a' W' → K a' W') →
      assign.wpIn (F.inRound l) (n - 1 - 1) P (Exit.then K (fun _ _ _ => False)) { tmps := (ps.zip (encs x)).foldl (fun t (p, v) => t.setIfInBounds p v) a.tmps, defers := [] } W)
    (hbody : ∀ (l : Nat) (pre : List α) (x : α) (a' : Act) (W : World), w.heap.size ≤ l → (∃ r, W.heap[l]? = some (.loop r)) → I pre W → Ax x a' W → pre.length < N → body.wpIn (F.inRound l) (n - 1 - 1) P (ownPostG w.heap.size Kp I Ix (pre ++ [x]) W) a' W)
    (hdone : ∀ (D : Nat) (xs : List α) (W : World), w.heap.size ≤ D → S xs → I xs W → W.heap[D]? = some (.deferred (some [])) → Q .normal { a with defers := { target := .collected D, args := #[] } :: a.defers } W)
    (hstop : ∀ (D : Nat) (c : Code) (pre : List α) (W : World), w.heap.size ≤ D → Sp pre → Ix c pre W → W.heap[D]? = some (.deferred (some [])) → c.wpIn F n P Q { a with defers := { target := .collected D, args := #[] } :: a.defers } W) :
    (Code.rangeFunc g ps assign body).wpIn F n P Q a w := by
  refine wpIn_rangeFunc ?_
  intro fn hfn
  rw [hro]
  obtain ⟨rec, hrec⟩ : ∃ rec : LoopState → Option Code → Loop, rec = fun st pe => { state := st, pending := pe, fn, tmps := a.tmps, params := ps, assign, body, defers := w.heap.size } := ⟨_, rfl⟩
  obtain ⟨W1, hW1⟩ : ∃ W1, (w.alloc (.deferred (some []))).alloc (.loop (rec .ready none)) = W1 := ⟨_, rfl⟩
  have hL1 : W1.heap[w.heap.size + 1]? = some (.loop (rec .ready none)) := by
    rw [← hW1]; have := World.alloc_heap_new (w.alloc (.deferred (some []))) (.loop (rec .ready none)); rwa [World.size_alloc] at this
  have hK1 : W1.heap[w.heap.size]? = some (.deferred (some [])) := by
    rw [← hW1]; exact (Below.heap_alloc _ _ _ (by simp)).trans (World.alloc_heap_new w _)
  have hI1 : I [] W1 := by rw [← hW1]; exact hI.alloc _ (hI.alloc _ h0)
  have hb1 : Below w0.heap.size w0 W1 := by
    rw [← hW1]; exact hb0.trans ((((Below.refl _ w).alloc (Nat.le_refl _) _).alloc (by simp) _).mono hb0.size)
  refine ⟨w.heap.size + 1, [{ target := .collected w.heap.size, args := #[] }], W1, { target := .fn (.func gf) lb, args := #[.func (.yield (w.heap.size + 1)) #[] #[]] }, W1, gf,
    #[.func (.yield (w.heap.size + 1)) #[] #[]] ++ lb, W1, ?_, ?_, ?_, ?_, fun _ => h1, ?_⟩
  · rw [← hW1, hrec]; exact run_enterLoop_outer _ _ _ _ _
  · simp only [resolve, hg]
    simp [go_sem]
  · intro f' hf'; simp [Target.leads] at hf'; subst hf'; exact hFg
  · simp [invoke, go_sem, eg]
  · have hnw : ∀ {A B : World} {row : Option Nat}, (∀ r, row = some r → W1.heap.size ≤ r ∧ ∃ o : Obj, A.heap[r]? = some o ∧ o.isWalk = true) → (∀ r, row = some r → w.heap.size ≤ r ∧ ∃ o : Obj, A.heap[r]? = some o ∧ o.isCells = false) :=
      fun hr r e => by obtain ⟨hB, o, ho, hw⟩ := hr r e; exact ⟨by rw [← hW1] at hB; simp at hB; omega, o, ho, Obj.not_cells_of_walk hw⟩
    refine (hseq (w.heap.size + 1)
      (fun pre W => I pre W ∧ W.heap[w.heap.size + 1]? = some (.loop (rec .ready none)) ∧ W.heap[w.heap.size]? = some (.deferred (some [])))
      (fun pre W => ∃ c, Ix c pre W ∧ W.heap[w.heap.size + 1]? = some (.loop (rec .done (some c))) ∧ W.heap[w.heap.size]? = some (.deferred (some [])))
      W1 hb1
      (fun s A B row hs hg' hr => ⟨hI s A B row hs.1 hg' (hnw (B := B) hr), (grownBy_keeps hg' (fun r e => (hr r e).2) hs.2.1 rfl).trans hs.2.1, (grownBy_keeps hg' (fun r e => (hr r e).2) hs.2.2 rfl).trans hs.2.2⟩)
      (fun s A B row hs hg' hr => by
        obtain ⟨c, hc, hl, hk⟩ := hs
        exact ⟨c, hIx c s A B row hc hg' (hnw (B := B) hr), (grownBy_keeps hg' (fun r e => (hr r e).2) hl rfl).trans hl, (grownBy_keeps hg' (fun r e => (hr r e).2) hk rfl).trans hk⟩)
      ?_ ⟨hI1, hL1, hK1⟩).mono ?_
    · rintro pre x Wb ⟨hib, hlb, hkb⟩ hRx hlen
      have hy := run_yield (P := P) (args := encs x) hlb (by rw [hrec]; exact hps x)
      rw [hrec] at hy
      refine ⟨fn, _, assign, body, hy, roundIn_of_wpIn hfn (hassign _ pre x Wb _ hib hRx ?_)⟩
      intro a' W hkfa hkpa hi hax
      have hl := hkfa.same _ _ (by omega) hlb rfl
      have hk := hkfa.same _ _ (Nat.le_refl _) hkb rfl
      have hlt : w.heap.size + 1 < W.heap.size := (Array.getElem?_eq_some_iff.1 hl).1
      refine ⟨_, run_beginRound hl (by rw [hrec]), ?_⟩
      have hl2 : (W.putObj (w.heap.size + 1) (.loop { rec .ready none with state := .busy })).heap[w.heap.size + 1]? = some (.loop { rec .ready none with state := .busy }) := World.putObj_heap_same hlt
      have hk2 : (W.putObj (w.heap.size + 1) (.loop { rec .ready none with state := .busy })).heap[w.heap.size]? = some (.deferred (some [])) := (World.putObj_heap_other (by omega)).trans hk
      have hw2 : Kp W (W.putObj (w.heap.size + 1) (.loop { rec .ready none with state := .busy })) := hKb _ _ _ _ (by omega) hl rfl rfl
      refine wpIn_mono (hbody _ pre x a' _ (by omega) ⟨_, hl2⟩ (hI.putObj _ hi (by omega) hl rfl) ((hAx x a').putObj (s := ()) _ hax (by omega) hl rfl) hlen) ?_
      have fin : ∀ (jump : Option Code) (W3 : World), KeepsFrom w.heap.size (W.putObj (w.heap.size + 1) (.loop { rec .ready none with state := .busy })) W3 →
          (Instr.endRound (w.heap.size + 1) jump).run P W3 = .ok (.bool jump.isNone) (W3.putObj (w.heap.size + 1) (.loop (rec (if jump.isNone then .ready else .done) jump))) ∧
          W3.heap[w.heap.size + 1]? = some (.loop { rec .ready none with state := .busy }) ∧
          (W3.putObj (w.heap.size + 1) (.loop (rec (if jump.isNone then .ready else .done) jump))).heap[w.heap.size + 1]? = some (.loop (rec (if jump.isNone then .ready else .done) jump)) ∧
          (W3.putObj (w.heap.size + 1) (.loop (rec (if jump.isNone then .ready else .done) jump))).heap[w.heap.size]? = some (.deferred (some [])) := fun jump W3 hk3 => by
        have hl3 := hk3.same _ _ (by omega) hl2 rfl
        have := run_endRound (P := P) jump hl3
        rw [hrec] at this ⊢
        exact ⟨this, by rw [hrec] at hl3; exact hl3, World.putObj_heap_same (Array.getElem?_eq_some_iff.1 hl3).1, (World.putObj_heap_other (by omega)).trans (hk3.same _ _ (Nat.le_refl _) hk2 rfl)⟩
      rintro e a3 W3 hp
      cases e with
      | normal =>
        obtain ⟨hk3, hkp3, hi3⟩ := hp
        obtain ⟨hr, hl3, hl4, hk4⟩ := fin none W3 hk3
        exact ⟨_, _, hr, .inl ⟨rfl, ⟨hI.putObj _ hi3 (by omega) hl3 rfl, hl4, hk4⟩, hKt hkpa (hKt (hKt hw2 hkp3) (hKb _ _ _ _ (by omega) hl3 rfl rfl))⟩⟩
      | ret =>
        obtain ⟨hk3, hi3⟩ := hp
        obtain ⟨hr, hl3, hl4, hk4⟩ := fin (some (.ret)) W3 hk3
        exact ⟨_, _, hr, .inr ⟨rfl, .ret, (hIx _).putObj _ hi3 (by omega) hl3 rfl, hl4, hk4⟩⟩
      | exit id =>
        obtain ⟨hk3, hi3⟩ := hp
        obtain ⟨hr, hl3, hl4, hk4⟩ := fin (some (.exit id)) W3 hk3
        exact ⟨_, _, hr, .inr ⟨rfl, .exit id, (hIx _).putObj _ hi3 (by omega) hl3 rfl, hl4, hk4⟩⟩
      | goto t =>
        obtain ⟨hk3, hi3⟩ := hp
        obtain ⟨hr, hl3, hl4, hk4⟩ := fin (some (.goto t)) W3 hk3
        exact ⟨_, _, hr, .inr ⟨rfl, .goto t, (hIx _).putObj _ hi3 (by omega) hl3 rfl, hl4, hk4⟩⟩
      | panic ch => exact hp.elim
      | outgrown => exact hp.elim
    · rintro e W2 ⟨⟨v, rfl⟩, (⟨xs, hS, hi, hl, hk⟩ | ⟨pre, hSp, c, hi, hl, hk⟩)⟩
      · exact ⟨none, _, by have := run_endLoop (P := P) hl (by rw [hrec]; simp); rw [hrec] at this; exact this, hdone _ xs _ (Nat.le_refl _) hS (hI.putObj _ hi (by omega) hl rfl) ((World.putObj_heap_other (by omega)).trans hk)⟩
      · exact ⟨some c, _, by have := run_endLoop (P := P) hl (by rw [hrec]; simp); rw [hrec] at this; exact this, hstop _ c pre _ (Nat.le_refl _) hSp ((hIx c).putObj _ hi (by omega) hl rfl) ((World.putObj_heap_other (by omega)).trans hk)⟩
end
end Go.Rel
