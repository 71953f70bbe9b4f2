/-
  What comes in: packets and steps by value, steps in a row; each body with its bound (layer 7).
-/
import Derived.Test.YticjkpnlnonibaaKFrame
import Derived.Test.YticjkpnlnonibaaHMem
namespace Go.Proofs.Yticjkpnlnonibaa
open Go.Joins Go.ChangeShapes Go.WideShapes Go.ChangeAt Go.RowKit
variable {H : Type} {enc : TypeId × Value → H}

/-- A step of the law. -/
structure Sp where
  kind : Int
  n : Int
  p : Pk
theorem mem_weightsAll {P : Program} {e : TypeId} : ∀ {l : List (DataW H)} {d : DataW H}, d ∈ l → ∀ n ∈ d.weights P e, n ∈ DataW.weightsAll P e l
  | d0 :: l, d, hd, n, hn => by
    simp only [DataW.weightsAll, List.mem_append]
    rcases List.mem_cons.1 hd with rfl | h
    · exact .inl hn
    · exact .inr (mem_weightsAll h n hn)
  | [], _, hd, _, _ => by cases hd
/-- Bytes that lie somewhere in what came in. -/
theorem bytes_in {W : World} {fuel : Nat} {v : Value} {x : DataW H × List MemPlace}
    (hf : DataW.trod enc Try.prog W 0 (fun _ => true) true fuel 28 [v] = some x) (hw : ∀ n ∈ x.1.weights Try.prog 28, n ≤ reachBytes) :
    ∃ A n c, ∃ xs : List UInt8, v = .slice A n c ∧ RV W A n (xs.map byteV) ∧ (A = none → c = 0) ∧ n ≤ c ∧ n ≤ 140737488351232 := by
  have hv : ∃ A n c, v = .slice A n c := by
    rcases Go.Deep.open_slice Try.underlying28 hf with ⟨hcs, _⟩ | ⟨a, len, cap, m, n, D, Pl, hcs, _⟩
    · simp only [List.cons.injEq, and_true] at hcs
      exact ⟨_, _, _, hcs⟩
    · simp only [List.cons.injEq, and_true] at hcs
      exact ⟨_, _, _, hcs⟩
  obtain ⟨A, n, c, rfl⟩ := hv
  obtain ⟨zs, h1, h2, h3, h4, h5⟩ := ints_opened Try.underlying28 Try.underlying5 (by kernel_rfl) hf
  refine ⟨A, n, c, zs.map fun z => z.toNat.toUInt8, rfl, ?_, h5, h3, ?_⟩
  · have e : (zs.map fun z => z.toNat.toUInt8).map byteV = zs.map (intV .u8) := by
      rw [List.map_map]
      refine List.map_congr_left fun z hz => ?_
      have hb : 0 ≤ z ∧ z ≤ 255 := by simpa [Lit.wf, IntKind.min, IntKind.max, IntKind.signed, IntKind.bits] using h2 z hz
      show Value.int .u8 ((z.toNat.toUInt8.toNat : Nat) : Int) = Value.int .u8 z
      have : z.toNat < 256 := by omega
      have h : ((z.toNat.toUInt8.toNat : Nat) : Int) = z := by
        simp
        omega
      rw [h]
    rw [e]
    exact h1
  · rcases slice_weighed Try.underlying28 Try.underlying5 (by kernel_rfl) hf with h0 | ⟨el, sp, hx, hl⟩
    · omega
    · have := hw ((el.length + sp.length) * Try.prog.bytesOf 5) (by rw [hx]; simp [DataW.weights, Try.underlying28])
      rw [show Try.prog.bytesOf 5 = 1 by kernel_rfl] at this
      have hr : reachBytes = 140737488351232 := by decide
      omega
theorem e_int : Try.prog.cellsOf 3 = 1 := by kernel_rfl
theorem e_bytes : Try.prog.cellsOf 28 = 1 := by kernel_rfl
theorem e_pk : Try.prog.cellsOf 30 = 3 := by kernel_rfl
theorem e_st : Try.prog.cellsOf 32 = 5 := by kernel_rfl
/-- A packet's cells. -/
theorem pk_in {W : World} {fuel : Nat} {c0 c1 c2 : Value} {x : DataW H × List MemPlace}
    (hf : DataW.trod enc Try.prog W 0 (fun _ => true) true fuel 30 [c0, c1, c2] = some x) (hw : ∀ n ∈ x.1.weights Try.prog 30, n ≤ reachBytes) :
    ∃ p : Pk, c0 = .int .i64 p.fr ∧ c1 = .int .i64 p.to ∧ c2 = .slice p.A p.body.length p.c ∧ BodyAt W p := by
  obtain ⟨ys, n', _, hy, _, hyl, hfl⟩ := DataW.trod_struct Try.underlying30 hf
  have h0 := hfl 0 _ rfl
  have h1 := hfl 1 _ rfl
  have h2 := hfl 2 _ rfl
  have hyl3 : ys.length = 3 := hyl
  match ys, hyl3 with
  | [y0, y1, y2], _ =>
    have k0 : DataW.trod enc Try.prog W 0 (fun _ => true) true n' 3 [c0] = some y0 := by simpa [e_int, e_bytes] using h0
    have k1 : DataW.trod enc Try.prog W 0 (fun _ => true) true n' 3 [c1] = some y1 := by simpa [e_int, e_bytes] using h1
    have k2 : DataW.trod enc Try.prog W 0 (fun _ => true) true n' 28 [c2] = some y2 := by simpa [e_int, e_bytes] using h2
    obtain ⟨z0, e0, _, _⟩ := DataW.trod_int Try.underlying3 k0
    obtain ⟨z1, e1, _, _⟩ := DataW.trod_int Try.underlying3 k1
    simp only [List.cons.injEq, and_true] at e0 e1
    obtain ⟨A, n, c, xs, rfl, hR, hnil, hle, hb⟩ := bytes_in k2 (fun q hq => hw q (by
      rw [Prod.mk.injEq] at hy
      rw [hy.1]
      simp only [DataW.weights, Try.underlying30]
      simp [DataW.weightsEach]
      exact .inr (.inr hq)))
    have hl : xs.length = n := by simpa using hR.1
    subst hl
    exact ⟨⟨z0, z1, xs, A, c⟩, e0, e1, rfl, hR, hle, hnil, hb⟩
/-- A step's cells. -/
theorem st_in {W : World} {fuel : Nat} {c0 c1 c2 c3 c4 : Value} {x : DataW H × List MemPlace}
    (hf : DataW.trod enc Try.prog W 0 (fun _ => true) true fuel 32 [c0, c1, c2, c3, c4] = some x) (hw : ∀ n ∈ x.1.weights Try.prog 32, n ≤ reachBytes) :
    ∃ s : Sp, c0 = .int .i64 s.kind ∧ c1 = .int .i64 s.n ∧ c2 = .int .i64 s.p.fr ∧ c3 = .int .i64 s.p.to ∧ c4 = .slice s.p.A s.p.body.length s.p.c ∧ BodyAt W s.p := by
  obtain ⟨ys, n', _, hy, _, hyl, hfl⟩ := DataW.trod_struct Try.underlying32 hf
  have h0 := hfl 0 _ rfl
  have h1 := hfl 1 _ rfl
  have h2 := hfl 2 _ rfl
  have hyl3 : ys.length = 3 := hyl
  match ys, hyl3 with
  | [y0, y1, y2], _ =>
    have k0 : DataW.trod enc Try.prog W 0 (fun _ => true) true n' 3 [c0] = some y0 := by simpa [e_int, e_pk] using h0
    have k1 : DataW.trod enc Try.prog W 0 (fun _ => true) true n' 3 [c1] = some y1 := by simpa [e_int, e_pk] using h1
    have k2 : DataW.trod enc Try.prog W 0 (fun _ => true) true n' 30 [c2, c3, c4] = some y2 := by simpa [e_int, e_pk] using h2
    obtain ⟨z0, e0, _, _⟩ := DataW.trod_int Try.underlying3 k0
    obtain ⟨z1, e1, _, _⟩ := DataW.trod_int Try.underlying3 k1
    simp only [List.cons.injEq, and_true] at e0 e1
    obtain ⟨p, e2, e3, e4, hB⟩ := pk_in k2 (fun q hq => hw q (by
      rw [Prod.mk.injEq] at hy
      rw [hy.1]
      simp only [DataW.weights, Try.underlying32]
      simp [DataW.weightsEach]
      exact .inr (.inr hq)))
    exact ⟨⟨z0, z1, p⟩, e0, e1, e2, e3, e4, hB⟩
/-- A packet by value, as argument number j. -/
theorem pk_arg {W : World} {base : Nat} {v : Value} {d : DataW H} {pl : List MemPlace} {ts : List TypeId} {ds : List (DataW H)} (hok : Value.okWide Try.prog W .any base 30 v)
    (hf : DataW.Trod enc Try.prog W 0 (fun _ => true) true 30 v d pl) (hsz : (DataW.weightsEach Try.prog ts ds).all (· ≤ reachBytes) = true) {j : Nat} (ht : ts[j]? = some 30) (hd : ds[j]? = some d) :
    ∃ p : Pk, v = .agg #[.int .i64 p.fr, .int .i64 p.to, .slice p.A p.body.length p.c] ∧ BodyAt W p := by
  obtain ⟨cs, rfl, hcs⟩ := okWide_struct Try.underlying30 hok
  rw [e_pk] at hcs
  obtain ⟨c0, c1, c2, rfl⟩ := array3 hcs
  obtain ⟨m, hm⟩ := hf
  obtain ⟨p, rfl, rfl, rfl, hB⟩ := pk_in (x := (d, pl)) (by simpa [Value.cells] using hm) (fun n hn => of_decide_eq_true (List.all_eq_true.1 hsz n (DataW.weights_mem_each ht hd n hn)))
  exact ⟨p, rfl, hB⟩
/-- A step by value, as argument number j. -/
theorem st_arg {W : World} {base : Nat} {v : Value} {d : DataW H} {pl : List MemPlace} {ts : List TypeId} {ds : List (DataW H)} (hok : Value.okWide Try.prog W .any base 32 v)
    (hf : DataW.Trod enc Try.prog W 0 (fun _ => true) true 32 v d pl) (hsz : (DataW.weightsEach Try.prog ts ds).all (· ≤ reachBytes) = true) {j : Nat} (ht : ts[j]? = some 32) (hd : ds[j]? = some d) :
    ∃ s : Sp, v = .agg #[.int .i64 s.kind, .int .i64 s.n, .int .i64 s.p.fr, .int .i64 s.p.to, .slice s.p.A s.p.body.length s.p.c] ∧ BodyAt W s.p := by
  obtain ⟨cs, rfl, hcs⟩ := okWide_struct Try.underlying32 hok
  rw [e_st] at hcs
  match cs, hcs with
  | ⟨[c0, c1, c2, c3, c4]⟩, _ =>
    obtain ⟨m, hm⟩ := hf
    obtain ⟨s, rfl, rfl, rfl, rfl, rfl, hB⟩ := st_in (x := (d, pl)) (by simpa [Value.cells] using hm) (fun n hn => of_decide_eq_true (List.all_eq_true.1 hsz n (DataW.weights_mem_each ht hd n hn)))
    exact ⟨s, rfl, hB⟩
/-- The step lies at ⟨b, o⟩. -/
def SpAt (w : World) (b o : Nat) (s : Sp) : Prop :=
  w.cell? ⟨b, o, none⟩ = some (.int .i64 s.kind) ∧ w.cell? ⟨b, o + 1, none⟩ = some (.int .i64 s.n) ∧ w.cell? ⟨b, o + 2, none⟩ = some (.int .i64 s.p.fr) ∧ w.cell? ⟨b, o + 3, none⟩ = some (.int .i64 s.p.to) ∧ w.cell? ⟨b, o + 4, none⟩ = some (.slice s.p.A s.p.body.length s.p.c) ∧ BodyAt w s.p
/-- The slice value reads as the steps ss. -/
def SSp (w : World) (A : Option Addr) (n : Nat) (ss : List Sp) : Prop :=
  ss.length = n ∧ (0 < n → ∃ b off, A = some ⟨b, off, none⟩ ∧ b < w.heap.size ∧ ∀ j (h : j < ss.length), SpAt w b (off + j * 5) ss[j])
/-- A slice of steps that came in. -/
theorem steps_arg {W : World} {A : Option Addr} {len cap : Nat} {d : DataW H} {pl : List MemPlace} {ts : List TypeId} {ds : List (DataW H)}
    (h : DataW.Trod enc Try.prog W 0 (fun _ => true) true 22 (.slice A len cap) d pl) (hsz : (DataW.weightsEach Try.prog ts ds).all (· ≤ reachBytes) = true) {j : Nat} (ht : ts[j]? = some 22) (hd : ds[j]? = some d) :
    ∃ ss, SSp W A len ss ∧ len ≤ cap ∧ cap ≤ maxLen := by
  obtain ⟨fuel, hf0⟩ := h
  have hf : DataW.trod enc Try.prog W 0 (fun _ => true) true fuel 22 [.slice A len cap] = some (d, pl) := hf0
  rcases Go.Deep.open_slice Try.underlying22 hf with ⟨hcs, _⟩ | ⟨a, len', cap', m, n, D, Pl, hcs, _, hl, hm, hmm, hx, hi⟩
  · simp only [List.cons.injEq, Value.slice.injEq, and_true] at hcs
    obtain ⟨rfl, rfl, rfl⟩ := hcs
    exact ⟨[], ⟨rfl, fun h => absurd h (Nat.lt_irrefl _)⟩, by omega, by unfold maxLen; omega⟩
  · simp only [List.cons.injEq, Value.slice.injEq, and_true] at hcs
    obtain ⟨rfl, rfl, rfl⟩ := hcs
    simp only [if_true] at hmm
    subst hmm
    rw [e_st] at hi
    have hdx : d = _ := congrArg Prod.fst hx
    have hel : ∀ i, i < len → D i ∈ (List.range len).map D := fun i h => List.mem_map.2 ⟨i, List.mem_range.2 h, rfl⟩
    have hat : ∀ i, i < len → ∃ s : Sp, W.cell? (a.add (i * 5)) = some (.int .i64 s.kind) ∧ W.cell? (a.add (i * 5 + 1)) = some (.int .i64 s.n) ∧ W.cell? (a.add (i * 5 + 2)) = some (.int .i64 s.p.fr) ∧ W.cell? (a.add (i * 5 + 3)) = some (.int .i64 s.p.to) ∧ W.cell? (a.add (i * 5 + 4)) = some (.slice s.p.A s.p.body.length s.p.c) ∧ BodyAt W s.p := by
      intro i hil
      obtain ⟨cs', hc, ht'⟩ := hi i (by omega)
      obtain ⟨_, hcl, hcat⟩ := World.cells?_some hc
      match cs', hcl with
      | [c0, c1, c2, c3, c4], _ =>
        obtain ⟨s, rfl, rfl, rfl, rfl, rfl, hB⟩ := st_in ht' (fun q hq => by
          refine of_decide_eq_true (List.all_eq_true.1 hsz q (DataW.weights_mem_each ht hd q ?_))
          rw [hdx]
          simp only [DataW.weights, Try.underlying22, List.mem_cons, List.mem_append]
          exact .inr (.inl (mem_weightsAll (hel i hil) q hq)))
        refine ⟨s, ?_, ?_, ?_, ?_, ?_, hB⟩
        · have := hcat 0 (by omega); rw [Go.Deep.add_add] at this; exact this
        · have := hcat 1 (by omega); rw [Go.Deep.add_add] at this; exact this
        · have := hcat 2 (by omega); rw [Go.Deep.add_add] at this; exact this
        · have := hcat 3 (by omega); rw [Go.Deep.add_add] at this; exact this
        · have := hcat 4 (by omega); rw [Go.Deep.add_add] at this; exact this
    rcases Nat.eq_zero_or_pos len with h0 | hp
    · subst h0
      exact ⟨[], ⟨rfl, fun h => absurd h (Nat.lt_irrefl _)⟩, hl, hm⟩
    · obtain ⟨b, off, spot⟩ := a
      have hspot : spot = none := by
        obtain ⟨s, h1, _⟩ := hat 0 hp
        simpa [Addr.add] using World.cell?_spot h1
      subst hspot
      have hb : b < W.heap.size := by
        obtain ⟨s, h1, _⟩ := hat 0 hp
        have := bcell_lt h1
        rwa [plain_add] at this
      have hch : ∃ g : Nat → Sp, ∀ i, i < len → SpAt W b (off + i * 5) (g i) := by
        have : ∀ i, ∃ s : Sp, i < len → SpAt W b (off + i * 5) s := fun i => by
          by_cases hil : i < len
          · obtain ⟨s, h0, h1, h2, h3, h4, h5⟩ := hat i hil
            rw [plain_add] at h0 h1 h2 h3 h4
            exact ⟨s, fun _ => ⟨h0, by rw [Nat.add_assoc]; exact h1, by rw [Nat.add_assoc]; exact h2, by rw [Nat.add_assoc]; exact h3, by rw [Nat.add_assoc]; exact h4, h5⟩⟩
          · exact ⟨⟨0, 0, ⟨0, 0, [], none, 0⟩⟩, fun h => absurd h hil⟩
        exact ⟨fun i => Classical.choose (this i), fun i => Classical.choose_spec (this i)⟩
      obtain ⟨g, hg⟩ := hch
      refine ⟨(List.range len).map g, ⟨by simp, fun _ => ⟨b, off, rfl, hb, fun i hi => ?_⟩⟩, hl, hm⟩
      have hi' : i < len := by simpa using hi
      simpa using hg i hi'
end Go.Proofs.Yticjkpnlnonibaa
