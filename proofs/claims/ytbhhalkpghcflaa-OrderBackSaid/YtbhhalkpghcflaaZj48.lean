/-
  What comes in, of whatever type that is made of numbers, bools, strings, structs, arrays and slices: told once (Came), put together by combinators; for the rows. 'enc' are an element's cells, 'ok W N x' what is known of it: its bounds; what its slices read in W, none longer than N.
-/
import Derived.Test.YtbhhalkpghcflaaZj47
import Derived.Test.YtbhhalkpghcflaaZj5
namespace Go.Proofs.Ytbhhalkpghcflaa
open Go.Joins Go.ChangeShapes Go.WideShapes Go.ChangeAt Go.RowKit
set_option linter.unusedSimpArgs false

theorem weightsAll_mem {H : Type} {P : Program} {e : TypeId} : ∀ {l : List (DataW H)} {d : DataW H}, d ∈ l → ∀ n ∈ d.weights P e, n ∈ DataW.weightsAll P e l
  | d0 :: l, d, hd, n, hn => by
    simp only [DataW.weightsAll, List.mem_append]
    rcases List.mem_cons.1 hd with rfl | h
    · exact .inl hn
    · exact .inr (weightsAll_mem h n hn)
  | [], _, hd, _, _ => by cases hd
structure Came (P : Program) (T : TypeId) (α : Type) where
  k : Nat
  enc : α → List Value
  ok : World → Nat → α → Prop
  dflt : α
  len : ∀ x, (enc x).length = k
  size : P.cellsOf T = k
  in_ : ∀ {H : Type} {e : TypeId × Value → H} {W : World} {N fuel : Nat} {cs : List Value} {x : DataW H × List MemPlace}, DataW.trod e P W 0 (fun _ => true) true fuel T cs = some x → (∀ n ∈ x.1.weights P T, n ≤ reachBytes) → Rows.uptoBulk x.1 ≤ N → ∃ a, cs = enc a ∧ ok W N a
  keep : ∀ {W W' : World} {N : Nat} {a : α}, ok W N a → Below W.heap.size W W' → ok W' N a
section
variable {P : Program} {T E : TypeId} {α β : Type}
/-- The same in other words. -/
def Came.re (C : Came P T α) (f : α → β) (enc' : β → List Value) (ok' : World → Nat → β → Prop) (hl : ∀ x, (enc' x).length = C.k) (h : ∀ {W N a}, C.ok W N a → C.enc a = enc' (f a) ∧ ok' W N (f a)) (hk : ∀ {W W' : World} {N : Nat} {b : β}, ok' W N b → Below W.heap.size W W' → ok' W' N b) : Came P T β where
  k := C.k
  enc := enc'
  ok := ok'
  dflt := f C.dflt
  len := hl
  size := C.size
  in_ := fun h1 h2 h3 => by
    obtain ⟨a, rfl, ha⟩ := C.in_ h1 h2 h3
    exact ⟨f a, (h ha).1, (h ha).2⟩
  keep := hk
/-- A number. -/
def Came.int {q : IntKind} (hT : P.underlying T = some (.int q)) (hc : P.cellsOf T = 1) : Came P T Int where
  k := 1
  enc z := [.int q z]
  ok _ _ z := (Lit.int q z).wf = true
  dflt := 0
  len _ := rfl
  size := hc
  in_ := fun h _ _ => by
    obtain ⟨z, h1, _, h3⟩ := DataW.trod_int hT h
    exact ⟨z, h1, h3⟩
  keep := fun h _ => h
/-- A number that is not below 0. -/
def Came.nat {q : IntKind} (hT : P.underlying T = some (.int q)) (hc : P.cellsOf T = 1) (m : Nat) (hm : ∀ z, (Lit.int q z).wf = true → 0 ≤ z ∧ z < (m : Int)) : Came P T Nat where
  k := 1
  enc z := [.int q (z : Int)]
  ok _ _ z := z < m
  dflt := 0
  len _ := rfl
  size := hc
  in_ := fun h _ _ => by
    obtain ⟨z, h1, _, h3⟩ := DataW.trod_int hT h
    have := hm z h3
    exact ⟨z.toNat, by rw [h1, show ((z.toNat : Nat) : Int) = z by omega], by omega⟩
  keep := fun h _ => h
def Came.bool (hT : P.underlying T = some .bool) (hc : P.cellsOf T = 1) : Came P T Bool where
  k := 1
  enc z := [.bool z]
  ok _ _ _ := True
  dflt := false
  len _ := rfl
  size := hc
  in_ := fun h _ _ => by
    obtain ⟨b, h1, _⟩ := DataW.trod_bool hT h
    exact ⟨b, h1, trivial⟩
  keep := fun h _ => h
def Came.str (hT : P.underlying T = some .string) (hc : P.cellsOf T = 1) : Came P T ByteArray where
  k := 1
  enc s := [.string s]
  ok _ N s := s.size ≤ maxLen ∧ s.size ≤ reachBytes ∧ s.size ≤ N
  dflt := ByteArray.empty
  len _ := rfl
  size := hc
  in_ := fun {H e W N fuel cs x} h hw hb => by
    obtain ⟨s, h1, h2, h3⟩ := DataW.trod_string hT h
    subst h2
    refine ⟨s, h1, h3, ?_, ?_⟩
    · exact hw s.size (by simp [DataW.weights])
    · simp [Rows.uptoBulk] at hb
      omega
  keep := fun h _ => h

/-! ### Slices -/
structure Sl (α : Type) where
  A : Option Addr
  c : Nat
  l : List α
theorem bulk_slice {H : Type} {el sp : List (DataW H)} {N : Nat} (h : Rows.uptoBulk (.slice el sp) ≤ N) : el.length ≤ N ∧ ∀ d ∈ el, Rows.uptoBulk d ≤ N := by
  simp only [Rows.uptoBulk] at h
  have := bulk_len el
  exact ⟨by omega, fun d hd => by have := bulk_mem el d hd; omega⟩
def Came.slice (C : Came P E α) (hk : 0 < C.k) (hT : P.underlying T = some (.slice E)) (hc : P.cellsOf T = 1) : Came P T (Sl α) where
  k := 1
  enc s := [.slice s.A s.l.length s.c]
  ok W N s := SK C.enc C.k W s.A s.l.length s.l ∧ (∀ a ∈ s.l, C.ok W N a) ∧ s.l.length ≤ s.c ∧ s.c ≤ maxLen ∧ (s.A = none → s.c = 0) ∧ s.c * P.bytesOf E ≤ reachBytes ∧ s.l.length ≤ N
  dflt := ⟨none, 0, []⟩
  len _ := rfl
  size := hc
  in_ := fun {H e W N fuel cs x} h hw hb => by
    rcases Go.Deep.open_slice hT h with ⟨hcs, hx⟩ | ⟨a, len, cap, m, n, D, Pl, hcs, _, hl, hm, hmm, hx, hi⟩
    · exact ⟨⟨none, 0, []⟩, hcs, SK.zero, (by simp), Nat.le_refl _, Nat.zero_le _, fun _ => rfl, by simp, Nat.zero_le _⟩
    · simp only [if_true] at hmm
      subst hmm
      rw [C.size] at hi
      subst hx
      obtain ⟨hbl, hbm⟩ := bulk_slice hb
      have hat : ∀ i, i < len → ∃ a1, C.ok W N a1 ∧ ∀ j u, (C.enc a1)[j]? = some u → W.cell? (a.add (i * C.k + j)) = some u := fun i hil => by
        obtain ⟨cs', hc', ht'⟩ := hi i (by omega)
        obtain ⟨_, hcl, hcat⟩ := World.cells?_some hc'
        have hel : D i ∈ (List.range len).map D := List.mem_map.2 ⟨i, List.mem_range.2 hil, rfl⟩
        obtain ⟨a1, e1, hok⟩ := C.in_ ht' (fun q hq => hw q (by
          simp only [DataW.weights, hT, List.mem_cons, List.mem_append]
          exact .inr (.inl (weightsAll_mem hel q hq)))) (hbm _ hel)
        refine ⟨a1, hok, fun j u hu => ?_⟩
        have hj : j < cs'.length := by rw [e1]; exact (List.getElem?_eq_some_iff.1 hu).1
        have h1 := hcat j (by omega)
        rw [Go.Deep.add_add, e1, hu] at h1
        exact h1
      have hwc : m * P.bytesOf E ≤ reachBytes := hw _ (by
        simp only [DataW.weights, hT, List.mem_cons]
        refine .inl ?_
        rw [List.length_map, List.length_map, List.length_range, List.length_range]
        congr 1
        omega)
      rcases Nat.eq_zero_or_pos len with h0 | hp
      · subst h0
        exact ⟨⟨some a, m, []⟩, hcs, SK.zero, (by simp), hl, hm, (fun h => by cases h), hwc, Nat.zero_le _⟩
      · obtain ⟨b, off, spot⟩ := a
        have hfirst : ∃ u, W.cell? ((⟨b, off, spot⟩ : Addr).add 0) = some u := by
          obtain ⟨a1, _, h1⟩ := hat 0 hp
          have hlen := C.len a1
          refine ⟨(C.enc a1)[0], ?_⟩
          have := h1 0 _ (List.getElem?_eq_getElem (by omega))
          simpa using this
        have hspot : spot = none := by
          obtain ⟨u, hu⟩ := hfirst
          simpa [Addr.add] using World.cell?_spot hu
        subst hspot
        have hblt : b < W.heap.size := by
          obtain ⟨u, hu⟩ := hfirst
          have := bcell_lt hu
          rwa [plain_add] at this
        have hch : ∃ g : Nat → α, ∀ i, i < len → C.ok W N (g i) ∧ ItAt C.enc W b (off + i * C.k) (g i) := by
          have : ∀ i, ∃ x : α, i < len → C.ok W N x ∧ ItAt C.enc W b (off + i * C.k) x := fun i => by
            by_cases hil : i < len
            · obtain ⟨a1, hok, h1⟩ := hat i hil
              refine ⟨a1, fun _ => ⟨hok, fun j u hu => ?_⟩⟩
              have := h1 j u hu
              rw [plain_add, ← Nat.add_assoc] at this
              exact this
            · exact ⟨C.dflt, fun h => absurd h hil⟩
          exact ⟨fun i => Classical.choose (this i), fun i => Classical.choose_spec (this i)⟩
        obtain ⟨g, hg⟩ := hch
        have hgl : ((List.range len).map g).length = len := by simp
        refine ⟨⟨some ⟨b, off, none⟩, m, (List.range len).map g⟩, by rw [hcs]; simp only [hgl], ?_, ?_, ?_, hm, (fun h => by cases h), hwc, ?_⟩
        · refine ⟨rfl, fun _ => ⟨b, off, rfl, hblt, fun i hi => ?_⟩⟩
          have hi' : i < len := by simpa using hi
          simpa using (hg i hi').2
        · intro x hx
          obtain ⟨i, hi, rfl⟩ := List.mem_map.1 hx
          exact (hg i (List.mem_range.1 hi)).1
        · simp only [hgl]; exact hl
        · simp only [hgl]
          have := hbl
          simp at this
          exact this
  keep := fun ⟨h1, h2, h3⟩ hb => ⟨h1.below hb, fun a ha => C.keep (h2 a ha) hb, h3⟩

/-! ### Structs: their fields, one behind the other -/
/-- Where each field lies. -/
def offs (P : Program) : Nat → List TypeId → List (TypeId × Nat)
  | _, [] => []
  | o, t :: ts => (t, o) :: offs P (o + P.cellsOf t) ts
def CutIn {H : Type} (e : TypeId × Value → H) (P : Program) (W : World) (n : Nat) : List TypeId → List Value → List (DataW H × List MemPlace) → Prop
  | [], _, ys => ys = []
  | t :: ts, cs, ys => ∃ y ys', ys = y :: ys' ∧ DataW.trod e P W 0 (fun _ => true) true n t (cs.take (P.cellsOf t)) = some y ∧ CutIn e P W n ts (cs.drop (P.cellsOf t)) ys'
theorem cut_of {H : Type} {e : TypeId × Value → H} {W : World} {n : Nat} {cs : List Value} : ∀ (ts : List TypeId) (o : Nat) (ys : List (DataW H × List MemPlace)), ys.length = ts.length →
    (∀ (i : Nat) p, (offs P o ts)[i]? = some p → DataW.trod e P W 0 (fun _ => true) true n p.1 ((cs.drop p.2).take (P.cellsOf p.1)) = ys[i]?) → CutIn e P W n ts (cs.drop o) ys
  | [], _, ys, hl, _ => List.eq_nil_of_length_eq_zero hl
  | t :: ts, o, ys, hl, h => by
    cases ys with
    | nil => simp at hl
    | cons y ys' =>
      refine ⟨y, ys', rfl, ?_, ?_⟩
      · have := h 0 (t, o) rfl
        simpa using this
      · rw [List.drop_drop]
        refine cut_of ts (o + P.cellsOf t) ys' (by simpa using hl) (fun i p hp => ?_)
        have := h (i + 1) p (by simpa [offs] using hp)
        simpa using this
structure CameF (P : Program) (ts : List TypeId) (α : Type) where
  k : Nat
  enc : α → List Value
  ok : World → Nat → α → Prop
  dflt : α
  len : ∀ x, (enc x).length = k
  in_ : ∀ {H : Type} {e : TypeId × Value → H} {W : World} {N n : Nat} {cs : List Value} {ys : List (DataW H × List MemPlace)}, cs.length = k → CutIn e P W n ts cs ys → (∀ m ∈ DataW.weightsEach P ts (ys.map (·.1)), m ≤ reachBytes) → (∀ y ∈ ys, Rows.uptoBulk y.1 ≤ N) → ∃ a, cs = enc a ∧ ok W N a
  keep : ∀ {W W' : World} {N : Nat} {a : α}, ok W N a → Below W.heap.size W W' → ok W' N a
def CameF.nil (P : Program) : CameF P [] Unit where
  k := 0
  enc _ := []
  ok _ _ _ := True
  dflt := ()
  len _ := rfl
  in_ := fun h _ _ _ => ⟨(), List.eq_nil_of_length_eq_zero h, trivial⟩
  keep := fun h _ => h
def CameF.cons {ts : List TypeId} (C : Came P T α) (F : CameF P ts β) : CameF P (T :: ts) (α × β) where
  k := C.k + F.k
  enc x := C.enc x.1 ++ F.enc x.2
  ok W N x := C.ok W N x.1 ∧ F.ok W N x.2
  dflt := (C.dflt, F.dflt)
  len x := by rw [List.length_append, C.len, F.len]
  in_ := fun {H e W N n cs ys} hl hcut hw hb => by
    obtain ⟨y, ys', rfl, ht, hc⟩ := hcut
    rw [C.size] at ht hc
    obtain ⟨a, e1, ha⟩ := C.in_ ht (fun q hq => hw q (by
      simp only [List.map_cons, DataW.weightsEach, List.mem_append]
      exact .inl hq)) (hb y (by simp))
    obtain ⟨b, e2, hb'⟩ := F.in_ (by rw [List.length_drop]; omega) hc (fun q hq => hw q (by
      simp only [List.map_cons, DataW.weightsEach, List.mem_append]
      exact .inr hq)) (fun y' hy' => hb y' (by simp [hy']))
    exact ⟨(a, b), by rw [← e1, ← e2, List.take_append_drop], ha, hb'⟩
  keep := fun ⟨h1, h2⟩ hb => ⟨C.keep h1 hb, F.keep h2 hb⟩
theorem bulk_agg {H : Type} {l : List (DataW H)} {N : Nat} (h : Rows.uptoBulk (.agg l) ≤ N) : ∀ d ∈ l, Rows.uptoBulk d ≤ N := fun d hd => by
  simp only [Rows.uptoBulk] at h
  have := bulk_mem l d hd
  omega
def Came.struct {ts : List TypeId} {fs : Array Field} (F : CameF P ts α) (hT : P.underlying T = some (.struct fs)) (hf : fs.toList.map (fun f => (f.type, f.offset)) = offs P 0 ts) (hc : P.cellsOf T = F.k) : Came P T α where
  k := F.k
  enc := F.enc
  ok := F.ok
  dflt := F.dflt
  len := F.len
  size := hc
  in_ := fun {H e W N fuel cs x} h hw hb => by
    obtain ⟨ys, n', _, hy, hcl, hyl, hfl⟩ := DataW.trod_struct hT h
    have hts : fs.toList.map (·.type) = ts := by
      have h1 := congrArg (List.map Prod.fst) hf
      rw [List.map_map] at h1
      have h2 : ∀ (o : Nat) (l : List TypeId), (offs P o l).map Prod.fst = l := fun o l => by
        induction l generalizing o with
        | nil => rfl
        | cons t l ih => simp [offs, ih]
      rw [h2] at h1
      exact h1
    have hlen : ys.length = ts.length := by rw [hyl, ← hts]; simp
    have hcut := cut_of (e := e) (W := W) (n := n') (cs := cs) ts 0 ys hlen (fun i p hp => by
      rw [← hf, List.getElem?_map] at hp
      cases hfi : fs.toList[i]? with
      | none => rw [hfi] at hp; cases hp
      | some f =>
        rw [hfi] at hp
        cases hp
        exact hfl i f (by rw [← Array.getElem?_toList]; exact hfi))
    rw [List.drop_zero] at hcut
    subst hy
    refine F.in_ (by rw [hcl, hc]) hcut (fun m hm => hw m ?_) (fun y hy => bulk_agg hb _ (List.mem_map.2 ⟨y, hy, rfl⟩))
    simp only [DataW.weights, hT, hts]
    exact hm
  keep := F.keep

/-! ### Arrays of two and three -/
def Came.pair (C : Came P E α) (hT : P.underlying T = some (.array 2 E)) (hc : P.cellsOf T = C.k + C.k) : Came P T (α × α) where
  k := C.k + C.k
  enc x := C.enc x.1 ++ C.enc x.2
  ok W N x := C.ok W N x.1 ∧ C.ok W N x.2
  dflt := (C.dflt, C.dflt)
  len x := by rw [List.length_append, C.len, C.len]
  size := hc
  in_ := fun {H e W N fuel cs x} h hw hb => by
    obtain ⟨xs, m, _, hx, hcl, hl, hi⟩ := DataW.trod_array hT h
    match xs, hl with
    | [y0, y1], _ =>
      have h0 := hi 0 (by omega)
      have h1 := hi 1 (by omega)
      rw [C.size] at h0 h1
      subst hx
      have hm0 : y0.1 ∈ [y0, y1].map (·.1) := by simp
      have hm1 : y1.1 ∈ [y0, y1].map (·.1) := by simp
      obtain ⟨a, e1, ha⟩ := C.in_ (x := y0) (by simpa using h0) (fun q hq => hw q (by
        simp only [DataW.weights, hT]
        exact weightsAll_mem hm0 q hq)) (bulk_agg hb _ hm0)
      obtain ⟨b, e2, hb'⟩ := C.in_ (x := y1) (by simpa using h1) (fun q hq => hw q (by
        simp only [DataW.weights, hT]
        exact weightsAll_mem hm1 q hq)) (bulk_agg hb _ hm1)
      refine ⟨(a, b), ?_, ha, hb'⟩
      have e1' : cs.take C.k = C.enc a := by simpa using e1
      have e2' : cs.drop C.k = C.enc b := by
        have e3 : (cs.drop C.k).take C.k = C.enc b := by simpa using e2
        rw [← e3, List.take_of_length_le (by rw [List.length_drop, hcl, hc]; omega)]
      rw [← e1', ← e2', List.take_append_drop]
  keep := fun ⟨h1, h2⟩ hb => ⟨C.keep h1 hb, C.keep h2 hb⟩

/-! ### As an argument -/
variable {H : Type} {e : TypeId × Value → H} {W : World} {base N : Nat} {v : Value} {d : DataW H} {pl : List MemPlace} {ts : List TypeId} {ds : List (DataW H)} {j : Nat}
theorem Came.of_cells (C : Came P T α) (hf : DataW.Trod e P W 0 (fun _ => true) true T v d pl) (hsz : (DataW.weightsEach P ts ds).all (· ≤ reachBytes) = true) (ht : ts[j]? = some T) (hd : ds[j]? = some d) (hN : Rows.uptoBulk d ≤ N) : ∃ a, v.cells.toList = C.enc a ∧ C.ok W N a := by
  obtain ⟨m, hm⟩ := hf
  exact C.in_ (x := (d, pl)) hm (fun n hn => of_decide_eq_true (List.all_eq_true.1 hsz n (DataW.weights_mem_each ht hd n hn))) hN
/-- A struct by value, as argument number j. -/
theorem Came.arg_struct (C : Came P T α) {fs : Array Field} (hT : P.underlying T = some (.struct fs)) (hok : Value.okWide P W .any base T v) (hf : DataW.Trod e P W 0 (fun _ => true) true T v d pl) (hsz : (DataW.weightsEach P ts ds).all (· ≤ reachBytes) = true) (ht : ts[j]? = some T) (hd : ds[j]? = some d) (hN : Rows.uptoBulk d ≤ N) :
    ∃ a, v = .agg (C.enc a).toArray ∧ C.ok W N a := by
  obtain ⟨cs, rfl, _⟩ := okWide_struct hT hok
  obtain ⟨a, e1, ha⟩ := C.of_cells hf hsz ht hd hN
  exact ⟨a, by rw [← e1]; simp [Value.cells], ha⟩
theorem Came.arg_array (C : Came P T α) {n : Nat} {E : TypeId} (hT : P.underlying T = some (.array n E)) (hok : Value.okWide P W .any base T v) (hf : DataW.Trod e P W 0 (fun _ => true) true T v d pl) (hsz : (DataW.weightsEach P ts ds).all (· ≤ reachBytes) = true) (ht : ts[j]? = some T) (hd : ds[j]? = some d) (hN : Rows.uptoBulk d ≤ N) :
    ∃ a, v = .agg (C.enc a).toArray ∧ C.ok W N a := by
  simp only [Value.okWide, hT] at hok
  obtain ⟨cs, rfl, _⟩ := hok
  obtain ⟨a, e1, ha⟩ := C.of_cells hf hsz ht hd hN
  exact ⟨a, by rw [← e1]; simp [Value.cells], ha⟩
/-- A slice. -/
theorem Came.arg_slice (C : Came P E α) (hk : 0 < C.k) (hT : P.underlying T = some (.slice E)) (hc : P.cellsOf T = 1) (hok : Value.okWide P W .any base T v) (hf : DataW.Trod e P W 0 (fun _ => true) true T v d pl) (hsz : (DataW.weightsEach P ts ds).all (· ≤ reachBytes) = true) (ht : ts[j]? = some T) (hd : ds[j]? = some d) (hN : Rows.uptoBulk d ≤ N) :
    ∃ s : Sl α, v = .slice s.A s.l.length s.c ∧ (C.slice hk hT hc).ok W N s := by
  obtain ⟨A, n, c, rfl⟩ := okWide_slice hT hok
  obtain ⟨s, e1, hs⟩ := (C.slice hk hT hc).of_cells hf hsz ht hd hN
  refine ⟨s, ?_, hs⟩
  have e2 : (Value.slice A n c).cells.toList = [Value.slice A n c] := by simp [Value.cells]
  have : [Value.slice A n c] = [.slice s.A s.l.length s.c] := by rw [← e2]; exact e1
  simpa using this
end
end Go.Proofs.Ytbhhalkpghcflaa
