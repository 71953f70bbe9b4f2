/-
  Frames that came in: by value, and as a slice of them; each body with its bound (layer 3).
-/
import Derived.Test.YtkbllhpjfgeaaaaSFrame
import Derived.Test.YtkbllhpjfgeaaaaFMem
import Derived.Lib.SmallJoins
import Derived.Deep.Slices
import Derived.Deep.Fields
import Derived.ChangeSame
namespace Go.Proofs.Ytkbllhpjfgeaaaa
open Go.Joins Go.ChangeShapes Go.WideShapes Go.ChangeAt Go.RowKit
variable {H : Type} {enc : TypeId × Value → H}

theorem mem_weightsAll {P : Program} {e : TypeId} : ∀ {l : List (DataW H)} {d : DataW H}, d ∈ l → ∀ n ∈ d.weights P e, n ∈ DataW.weightsAll P e l
  | d0 :: l, d, hd, n, hn => by
    simp only [DataW.weightsAll, List.mem_append]
    rcases List.mem_cons.1 hd with rfl | h
    · exact .inl hn
    · exact .inr (mem_weightsAll h n hn)
  | [], _, hd, _, _ => by cases hd

/-- A slice of bytes that lies somewhere in what came in. -/
theorem RB.argM {W : World} {fuel : Nat} {v : Value} {x : DataW H × List MemPlace}
    (hf : DataW.trod enc Try.prog W 0 (fun _ => true) true fuel 22 [v] = some x) (hw : ∀ n ∈ x.1.weights Try.prog 22, n ≤ reachBytes) :
    ∃ A n c xs, v = .slice A n c ∧ RB W A n xs ∧ (A = none → c = 0) ∧ n ≤ c ∧ n ≤ 140737488351232 := by
  have hv : ∃ A n c, v = .slice A n c := by
    rcases Go.Deep.open_slice Try.underlying22 hf with ⟨hcs, _⟩ | ⟨a, len, cap, m, n, D, Pl, hcs, _⟩
    · simp only [List.cons.injEq, and_true] at hcs
      exact ⟨_, _, _, hcs⟩
    · simp only [List.cons.injEq, and_true] at hcs
      exact ⟨_, _, _, hcs⟩
  obtain ⟨A, n, c, rfl⟩ := hv
  obtain ⟨xs, h1, h2, h3, h4⟩ := RB.opened hf
  refine ⟨A, n, c, xs, rfl, h1, h4, h2, ?_⟩
  rcases RB.weighed hf with h0 | ⟨el, sp, hx, hl⟩
  · omega
  · have := hw ((el.length + sp.length) * Try.prog.bytesOf 5) (by rw [hx]; simp [DataW.weights, Try.underlying22])
    rw [show Try.prog.bytesOf 5 = 1 by kernel_rfl] at this
    have hr : reachBytes = 140737488351232 := by decide
    omega
theorem fr_of {W : World} {n0 n1 : Nat} {v0 v1 : Value} {y0 y1 : DataW H × List MemPlace}
    (t0 : DataW.trod enc Try.prog W 0 (fun _ => true) true n0 5 [v0] = some y0) (t1 : DataW.trod enc Try.prog W 0 (fun _ => true) true n1 22 [v1] = some y1)
    (hw : ∀ n ∈ y1.1.weights Try.prog 22, n ≤ reachBytes) : ∃ (f : Fr) (A : Option Addr) (c : Nat), v0 = .int .u8 (f.k.toNat : Int) ∧ v1 = .slice A f.b.length c ∧ BodyAt W A c f.b := by
  obtain ⟨k, e0, _, wk⟩ := DataW.trod_int Try.underlying5 t0
  simp only [List.cons.injEq, and_true] at e0
  subst e0
  have hk : 0 ≤ k ∧ k ≤ 255 := by simpa [Lit.wf, IntKind.min, IntKind.max, IntKind.signed, IntKind.bits] using wk
  obtain ⟨A, n, c, xs, rfl, hR, hnil, hle, hb⟩ := RB.argM t1 hw
  have hl := hR.1
  refine ⟨⟨k.toNat.toUInt8, xs⟩, A, c, ?_, by rw [hl], ?_⟩
  · have : ((k.toNat.toUInt8).toNat : Int) = k := by
      have : k.toNat < 256 := by omega
      simp
      omega
    rw [this]
  · show BodyAt W A c xs
    exact ⟨by rw [hl]; exact hR, by rw [hl]; exact hle, hnil, by rw [hl]; exact hb⟩

/-- A frame by value, as argument number j. -/
theorem frame_arg {W : World} {base : Nat} {v : Value} {d : DataW H} {p : List MemPlace} {ts : List TypeId} {ds : List (DataW H)} (hok : Value.okWide Try.prog W .any base 24 v)
    (hf : DataW.Trod enc Try.prog W 0 (fun _ => true) true 24 v d p) (hsz : (DataW.weightsEach Try.prog ts ds).all (· ≤ reachBytes) = true) {j : Nat} (ht : ts[j]? = some 24) (hd : ds[j]? = some d) :
    ∃ (f : Fr) (A : Option Addr) (c : Nat), v = frV f A c ∧ BodyAt W A c f.b := by
  obtain ⟨u0, u1, y0, y1, n0, rfl, hd1, hp1, t0, t1⟩ := open_agg2 Try.underlying24 (by kernel_rfl) (by kernel_rfl) hok hf
  obtain ⟨f, A, c, rfl, rfl, hb⟩ := fr_of t0 t1 (fun n hn => by
    refine of_decide_eq_true (List.all_eq_true.1 hsz n (DataW.weights_mem_each ht hd n ?_))
    rw [hd1]
    simp only [DataW.weights, Try.underlying24]
    simp [DataW.weightsEach]
    exact .inr hn)
  exact ⟨f, A, c, rfl, hb⟩

theorem plain_add (b off k : Nat) : (⟨b, off, none⟩ : Addr).add k = ⟨b, off + k, none⟩ := by unfold Addr.add; split <;> simp_all

/-- A slice of frames, as argument number j. -/
theorem RFs.arg {W : World} {fuel : Nat} {A : Option Addr} {len cap : Nat} {x : DataW H × List MemPlace} {ts : List TypeId} {ds : List (DataW H)}
    (hf : DataW.trod enc Try.prog W 0 (fun _ => true) true fuel 38 [.slice A len cap] = some x) (hsz : (DataW.weightsEach Try.prog ts ds).all (· ≤ reachBytes) = true) {j : Nat} (ht : ts[j]? = some 38) (hd : ds[j]? = some x.1) :
    ∃ fs, RFs W A len fs ∧ (A = none → cap = 0) ∧ len ≤ cap ∧ len ≤ 4398046511104 := by
  rcases Go.Deep.open_slice Try.underlying38 hf with ⟨hcs, _⟩ | ⟨a, len', cap', m, n, D, Pl, hcs, _, hl, hm, hmm, hx, hi⟩
  · simp only [List.cons.injEq, Value.slice.injEq, and_true] at hcs
    obtain ⟨rfl, rfl, rfl⟩ := hcs
    exact ⟨[], RFs.zero _ _, fun _ => rfl, Nat.le_refl _, by omega⟩
  · simp only [List.cons.injEq, Value.slice.injEq, and_true] at hcs
    obtain ⟨rfl, rfl, rfl⟩ := hcs
    simp only [if_true] at hmm
    subst hmm
    have hel : ∀ i, i < len → D i ∈ (List.range len).map D := fun i h => List.mem_map.2 ⟨i, List.mem_range.2 h, rfl⟩
    have hC : Try.prog.cellsOf 24 = 2 := by kernel_rfl
    rw [hC] at hi
    have hbound : len ≤ 4398046511104 := by
      rw [hx] at hd
      have h := sized_slice hsz ht hd Try.underlying38
      rw [show Try.prog.bytesOf 24 = 32 by kernel_rfl] at h
      have hr : reachBytes = 140737488351232 := by decide
      simp only [List.length_map, List.length_range] at h
      omega
    have hat : ∀ i, i < len → ∃ f : Fr, ∃ A' c', W.cell? (a.add (i * 2)) = some (.int .u8 (f.k.toNat : Int)) ∧ W.cell? (a.add (i * 2 + 1)) = some (.slice A' f.b.length c') ∧ BodyAt W A' c' f.b := by
      intro i hil
      obtain ⟨cs', hc, ht'⟩ := hi i (by omega)
      obtain ⟨_, hcl, hcat⟩ := World.cells?_some hc
      obtain ⟨ys, n', _, hy, _, hyl, hfl⟩ := DataW.trod_struct Try.underlying24 ht'
      match cs', hcl with
      | [c0, c1], _ =>
        have h0 := hfl 0 _ rfl
        have h1 := hfl 1 _ rfl
        have hyl2 : ys.length = 2 := hyl
        match ys, hyl2 with
        | [y0, y1], _ =>
          have k0 : DataW.trod enc Try.prog W 0 (fun _ => true) true n' 5 [c0] = some y0 := by
            have e : Try.prog.cellsOf 5 = 1 := by kernel_rfl
            simpa [e] using h0
          have k1 : DataW.trod enc Try.prog W 0 (fun _ => true) true n' 22 [c1] = some y1 := by
            have e : Try.prog.cellsOf 22 = 1 := by kernel_rfl
            simpa [e] using h1
          obtain ⟨f, A', c', rfl, rfl, hb⟩ := fr_of k0 k1 (fun q hq => by
            refine of_decide_eq_true (List.all_eq_true.1 hsz q (DataW.weights_mem_each ht hd q ?_))
            rw [hx]
            simp only [DataW.weights, Try.underlying38, List.mem_cons, List.mem_append]
            refine .inr (.inl (mem_weightsAll (hel i hil) q ?_))
            rw [Prod.mk.injEq] at hy
            rw [hy.1]
            simp only [DataW.weights, Try.underlying24]
            simp [DataW.weightsEach]
            exact .inr hq)
          refine ⟨f, A', c', ?_, ?_, hb⟩
          · have := hcat 0 (by omega)
            rw [Go.Deep.add_add] at this
            exact this
          · have := hcat 1 (by omega)
            rw [Go.Deep.add_add] at this
            exact this
    rcases Nat.eq_zero_or_pos len with h0 | hp
    · subst h0
      exact ⟨[], RFs.zero _ _, (fun e => by cases e), hl, hbound⟩
    · obtain ⟨b, off, spot⟩ := a
      have hspot : spot = none := by
        obtain ⟨f, A', c', h1, _⟩ := hat 0 hp
        simpa [Addr.add] using World.cell?_spot h1
      subst hspot
      have hb : b < W.heap.size := by
        obtain ⟨f, A', c', h1, _⟩ := hat 0 hp
        have := bcell_lt h1
        rwa [plain_add] at this
      have hch : ∃ g : Nat → Fr, ∀ i, i < len → FrAt W b (off + i * 2) (g i) := by
        have : ∀ i, ∃ f : Fr, i < len → FrAt W b (off + i * 2) f := fun i => by
          by_cases hil : i < len
          · obtain ⟨f, A', c', h1, h2, h3⟩ := hat i hil
            rw [plain_add] at h1 h2
            exact ⟨f, fun _ => ⟨hb, h1, A', c', by rw [Nat.add_assoc]; exact h2, h3⟩⟩
          · exact ⟨⟨0, []⟩, fun h => absurd h hil⟩
        exact ⟨fun i => Classical.choose (this i), fun i => Classical.choose_spec (this i)⟩
      obtain ⟨g, hg⟩ := hch
      refine ⟨(List.range len).map g, ⟨by simp, fun _ => ⟨b, off, rfl, hb, fun i hi => ?_⟩⟩, (fun e => by cases e), hl, hbound⟩
      have hi' : i < len := by simpa using hi
      simpa using hg i hi'
end Go.Proofs.Ytkbllhpjfgeaaaa
