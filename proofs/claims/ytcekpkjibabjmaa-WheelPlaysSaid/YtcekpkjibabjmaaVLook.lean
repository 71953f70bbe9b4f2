/-
  Left and Next of the document's wheel, walked (layer 6).
-/
import Derived.Test.YtcekpkjibabjmaaVStop
namespace Go.Proofs.Ytcekpkjibabjmaa
open Go.RowKit
set_option linter.unusedSimpArgs false

theorem dueOf_at {L : Tm} (hR : Rise L) {k : Nat} (h : k < L.length) : dueOf L L[k].1 = some L[k].2 := dueOf_of_mem hR (List.getElem_mem h)
set_option maxHeartbeats 4000000 in
theorem rleft_any (Q : Nat → Prop) (w : World) (B2 : Nat) (s : St) (h : RwAt Q w B2 s) (id : Int) (hN : s.now ≤ 1099511627776) :
    Calls Try.prog 32 #[.pointer (some ⟨B2, 0, none⟩), .int .i64 id] w fun e w' => e = .returned (optV (s.left id)) ∧ Below w.heap.size w w' := by
  obtain ⟨_, hok, A, n, c, hh, hr⟩ := h
  obtain ⟨c0, c1, _, _⟩ := ref_cells hh
  have hn : s.L.length = n := hr.1
  have hn64 := hok.most
  unfold St.left
  obtain ⟨L, hL⟩ : ∃ L, s.L = L := ⟨_, rfl⟩
  obtain ⟨N, hNN⟩ : ∃ N, s.now = N := ⟨_, rfl⟩
  have HRise : Hid (Rise L) := Lib.hid (hL ▸ hok.rise)
  have HSoon : Hid (∀ x ∈ L, N < x.2 ∧ x.2 ≤ N + 262144) := Lib.hid (by rw [← hL, ← hNN]; exact hok.soon)
  rw [hL] at hr hn hn64 ⊢
  rw [hNN] at c0 hN ⊢
  have HR := Lib.hid hr
  have HN := Lib.hid hn
  have q1 : (n : Int) ≤ 64 := by omega
  have q4 : (N : Int) ≤ 1099511627776 := by omega
  have q5 : (0 : Int) ≤ (N : Int) := by omega
  clear hr hn hh hok hL hNN
  go_enter Try.func32, Try.ntmps32
  go_wp2
  go_loopw [6] (fun kv wr => ∃ k : Nat, kv = .int .i64 (k : Int) ∧ k ≤ n ∧ Hid (∀ x ∈ L.take k, x.1 ≠ id) ∧ w = wr) (fun kv _ => n - (RowKit.intOf kv).toNat)
  case atStart => exact ⟨0, rfl, Nat.zero_le _, Lib.hid (by simp), rfl⟩
  case round =>
    obtain ⟨k, rfl, hk, hno, rfl⟩ := hrel
    by_cases hlt : k < n
    · have hkl : k < L.length := by rw [HN.out]; exact hlt
      obtain ⟨b, off, rfl, _, _, hat⟩ := HR.out.2 (by omega)
      obtain ⟨cr, cr2⟩ := hat k hkl
      have hdue := dueOf_at HRise.out hkl
      have hsn := HSoon.out _ (List.getElem_mem hkl)
      obtain ⟨x, hx⟩ : ∃ x, L[k] = x := ⟨_, rfl⟩
      rw [hx] at cr cr2 hdue hsn
      have q2 : (k : Int) < (n : Int) := by omega
      by_cases hyy : x.1 = id
      · have z1 : (x.1 == id) = true := by rw [beq_iff_eq]; exact hyy
        rw [hyy] at hdue
        have HT := Lib.hid hdue
        have HE : Hid (((x.2 - N : Nat) : Int) = (x.2 : Int) - (N : Int)) := Lib.hid (by omega)
        have q6 : (N : Int) < (x.2 : Int) := by omega
        have q7 : (x.2 : Int) ≤ (N : Int) + 262144 := by omega
        have q8 : (0 : Int) ≤ (k : Int) := by omega
        clear hat hx hyy hdue hsn
        go_wp2
        go_quiet (fail)
        go_wp2
        go_ret2
        refine ⟨?_, below_drewN (Below.refl _ _) _⟩
        rw [HT.out]
        show Ending.returned (.tuple #[.int .i64 ((x.2 : Int) - (N : Int)), .bool true]) = .returned (.tuple #[.int .i64 ((x.2 - N : Nat) : Int), .bool true])
        rw [HE.out]
      · have z1 : (x.1 == id) = false := by rw [beq_eq_false_iff_ne]; exact hyy
        have HT : Hid (∀ x ∈ L.take (k + 1), x.1 ≠ id) := Lib.hid (fun y hy => by
          rw [List.take_succ_eq_append_getElem hkl] at hy
          rcases List.mem_append.1 hy with hy | hy
          · exact hno.out y hy
          · obtain rfl := List.mem_singleton.1 hy
            rw [hx]; exact hyy)
        clear hat hx hyy hdue hsn
        go_wp2
        go_roundw
        case rel => exact ⟨k + 1, by go_num, by omega, HT, trivial⟩
        case measure => simp [RowKit.intOf]; omega
    · obtain rfl : k = n := by omega
      have HT : Hid (dueOf L id = none) := Lib.hid (dueOf_none.2 (fun x hx => hno.out x (by rw [List.take_of_length_le (by rw [HN.out]; exact Nat.le_refl _)]; exact hx)))
      go_wp2
      go_ret2
      rw [HT.out]
      exact ⟨rfl, Below.refl _ _⟩
/-- The least of those that have come. -/
theorem leastL_snoc (N : Nat) : ∀ (L : Tm) (x : Int × Nat), leastL N (L ++ [x]) = some (match leastL N L with
    | none => x.2 - N
    | some v => min v (x.2 - N))
  | [], x => rfl
  | y :: r, x => by
    rw [List.cons_append]
    unfold leastL
    rw [leastL_snoc N r x]
    cases leastL N r with
    | none => rfl
    | some v => simp only; congr 1; omega
set_option maxHeartbeats 8000000 in
theorem rnext_any (Q : Nat → Prop) (w : World) (B2 : Nat) (s : St) (h : RwAt Q w B2 s) (hN : s.now ≤ 1099511627776) :
    Calls Try.prog 33 #[.pointer (some ⟨B2, 0, none⟩)] w fun e w' => e = .returned (optV s.next) ∧ Below w.heap.size w w' := by
  have HH := Lib.hid h
  obtain ⟨_, hok, A, n, c, hh, hr⟩ := h
  have hn : s.L.length = n := hr.1
  have hn64 := hok.most
  have HSoon0 := hok.soon
  unfold St.next
  obtain ⟨L, hL⟩ : ∃ L, s.L = L := ⟨_, rfl⟩
  obtain ⟨N, hNN⟩ : ∃ N, s.now = N := ⟨_, rfl⟩
  have HSoon : Hid (∀ x ∈ L, N < x.2 ∧ x.2 ≤ N + 262144) := Lib.hid (by rw [← hL, ← hNN]; exact HSoon0)
  rw [hL] at hr hn hn64 ⊢
  rw [hNN] at hh hN ⊢
  have HR := Lib.hid hr
  have HN := Lib.hid hn
  have HHh := Lib.hid hh
  have hlt2 := block_lt hh
  have q1 : (n : Int) ≤ 64 := by omega
  have q4 : (N : Int) ≤ 1099511627776 := by omega
  have q5 : (0 : Int) ≤ (N : Int) := by omega
  clear hr hn hh hok hL hNN HSoon0
  go_enter Try.func33, Try.ntmps33
  go_wp2
  go_loopw [4, 5, 6] (fun lv av kv wr => ∃ (k v : Nat) (any : Bool), kv = .int .i64 (k : Int) ∧ lv = .int .i64 (v : Int) ∧ av = .bool any ∧ k ≤ n ∧ v ≤ 262144 ∧ Hid ((any = false → v = 0 ∧ leastL N (L.take k) = none) ∧ (any = true → leastL N (L.take k) = some v)) ∧ Hid (Below w.heap.size w wr)) (fun _ _ kv _ => n - (RowKit.intOf kv).toNat)
  case atStart => exact ⟨0, 0, false, rfl, rfl, rfl, Nat.zero_le _, Nat.zero_le _, Lib.hid ⟨fun _ => ⟨rfl, rfl⟩, fun h => by cases h⟩, Lib.hid (Below.refl _ _)⟩
  case round =>
    obtain ⟨k, v, any, rfl, rfl, rfl, hk, hv, hlv, hbe⟩ := hrel
    obtain ⟨c0, c1, _, _⟩ := ref_cells ((hbe.out.block B2 hlt2).trans HHh.out)
    by_cases hlt : k < n
    · have hkl : k < L.length := by rw [HN.out]; exact hlt
      have hrr := HR.out.but (But.of_below (S := fun _ => False) hbe.out) (fun _ h => h.elim)
      obtain ⟨b, off, rfl, _, _, hat⟩ := hrr.2 (by omega)
      obtain ⟨cr, cr2⟩ := hat k hkl
      have hsn := HSoon.out _ (List.getElem_mem hkl)
      have htk := List.take_succ_eq_append_getElem hkl
      obtain ⟨x, hx⟩ : ∃ x, L[k] = x := ⟨_, rfl⟩
      rw [hx] at cr cr2 hsn htk
      have hls := leastL_snoc N (L.take k) x
      rw [← htk] at hls
      have q2 : (k : Int) < (n : Int) := by omega
      have q3 : (0 : Int) ≤ (k : Int) := by omega
      have q6 : (N : Int) < (x.2 : Int) := by omega
      have q7 : (x.2 : Int) ≤ (N : Int) + 262144 := by omega
      obtain ⟨y, hy⟩ : ∃ y : Nat, x.2 - N = y := ⟨_, rfl⟩
      have hyi : (x.2 : Int) - (N : Int) = (y : Int) := by omega
      have hyb : y ≤ 262144 := by omega
      rw [hy] at hls
      have HY := Lib.hid hyi
      cases any with
      | false =>
        obtain ⟨hv0, hno⟩ := hlv.out.1 rfl
        rw [hno] at hls
        have HLs : Hid (leastL N (L.take (k + 1)) = some y) := Lib.hid hls
        clear hat hx htk hls hy hyi hsn hrr hv0 hno
        go_wp2
        go_quiet (fail)
        go_wp2
        go_roundw
        case rel => exact ⟨k + 1, y, true, by go_num, by rw [HY.out], rfl, by omega, hyb, Lib.hid ⟨(fun h => by cases h), fun _ => HLs.out⟩, Lib.hid (below_drewN hbe.out _)⟩
        case measure => simp [RowKit.intOf]; omega
      | true =>
        have hso := hlv.out.2 rfl
        rw [hso] at hls
        by_cases hyv : y < v
        · have HLs : Hid (leastL N (L.take (k + 1)) = some y) := Lib.hid (by rw [hls]; simp only; congr 1; omega)
          have z1 : (x.2 : Int) - (N : Int) < (v : Int) := by omega
          clear hat hx htk hls hy hyi hsn hrr hso
          go_wp2
          go_quiet (fail)
          go_wp2
          go_roundw
          case rel => exact ⟨k + 1, y, true, by go_num, by rw [HY.out], rfl, by omega, hyb, Lib.hid ⟨(fun h => by cases h), fun _ => HLs.out⟩, Lib.hid (below_drewN hbe.out _)⟩
          case measure => simp [RowKit.intOf]; omega
        · have HLs : Hid (leastL N (L.take (k + 1)) = some v) := Lib.hid (by rw [hls]; simp only; congr 1; omega)
          have z1 : ¬ (x.2 : Int) - (N : Int) < (v : Int) := by omega
          clear hat hx htk hls hy hyi hsn hrr hso
          go_wp2
          go_quiet (fail)
          go_wp2
          go_roundw
          case rel => exact ⟨k + 1, v, true, by go_num, rfl, rfl, by omega, hv, Lib.hid ⟨(fun h => by cases h), fun _ => HLs.out⟩, Lib.hid (below_drewN hbe.out _)⟩
          case measure => simp [RowKit.intOf]; omega
    · obtain rfl : k = n := by omega
      have hfull : L.take k = L := List.take_of_length_le (by rw [HN.out]; exact Nat.le_refl _)
      have hl := hlv.out
      rw [hfull] at hl
      have HL := Lib.hid hl
      clear hfull hl hlt
      cases any with
      | false =>
        obtain ⟨rfl, hno⟩ := HL.out.1 rfl
        have HNo := Lib.hid hno
        clear hno
        go_wp2
        go_ret2
        rw [HNo.out]
        exact ⟨rfl, hbe.out⟩
      | true =>
        have HSo := Lib.hid (HL.out.2 rfl)
        go_wp2
        go_ret2
        rw [HSo.out]
        exact ⟨rfl, hbe.out⟩
end Go.Proofs.Ytcekpkjibabjmaa
