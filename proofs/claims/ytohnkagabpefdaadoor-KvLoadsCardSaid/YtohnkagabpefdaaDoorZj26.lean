/-
  name.Key and the document's Key, walked (layer 1), for later layers.
-/
import Derived.Test.YtohnkagabpefdaaDoorZj8
import Derived.Test.YtohnkagabpefdaaDoorZj25
import Derived.WalkLawsBesides
import Derived.WalkSpells
import Derived.Handy
import Derived.Shelf.Vars
namespace Go.Proofs.YtohnkagabpefdaaDoor
open Go.RowKit
set_option linter.unusedSimpArgs false

/-- The byte as the walk has it. -/
theorem byte_back (c : UInt8) : ((c.toNat : Int)).toNat.toUInt8 = c := by simp
theorem has_any (a : ByteArray) (c : UInt8) (w : World) :
    Calls Tryd.prog 74 #[.string a, .int .u8 (c.toNat : Int)] w fun e w' => e = .returned (.bool (okB a.data.toList c)) ∧ w = w' := by
  have hix := Lib.contains_iff_indexByte a.data.toList c
  have hc := Tryd.strings_IndexByte a (c.toNat : Int) w
  rw [byte_back] at hc
  have hlt := c.toNat_lt
  by_cases h1 : c.toNat < 48
  · have hp : plainB c = false := by simp [plainB]; omega
    go_enter Tryd.func74, Tryd.ntmps74
    go_wp2_with (go_at_call 81; refine hc.mono ?_; rintro e w' ⟨rfl, rfl⟩)
    go_ret
    exact ⟨ret_bool (by first | (simp only [okB, hp, hix, Bool.false_or]; done) | (simp [okB, hp, hix]; done) | (simp [okB, hp, hix]; omega)), rfl⟩
  · by_cases h2 : c.toNat ≤ 57
    · have hp : plainB c = true := by simp [plainB]; omega
      go_enter Tryd.func74, Tryd.ntmps74
      go_wp2
      go_ret
      exact ⟨ret_bool (by first | (simp only [okB, hp, Bool.true_or]; done) | (simp [okB, hp]; done) | (simp [okB, hp]; omega)), rfl⟩
    · by_cases h3 : c.toNat < 97
      · have hp : plainB c = false := by simp [plainB]; omega
        have d1 : decide ((97 : Int) ≤ (c.toNat : Int)) = false := by simp; omega
        have d2 : decide ((48 : Int) ≤ (c.toNat : Int)) = true := by simp; omega
        have d3 : decide ((c.toNat : Int) ≤ 57) = false := by simp; omega
        go_enter Tryd.func74, Tryd.ntmps74
        go_wp2_with (go_at_call 81; refine hc.mono ?_; rintro e w' ⟨rfl, rfl⟩)
        go_ret
        exact ⟨ret_bool (by first | (simp only [okB, hp, hix, Bool.false_or]; done) | (simp [okB, hp, hix]; done) | (simp [okB, hp, hix]; omega)), rfl⟩
      · by_cases h4 : c.toNat ≤ 122
        · have hp : plainB c = true := by simp [plainB]; omega
          go_enter Tryd.func74, Tryd.ntmps74
          go_wp2
          go_ret
          exact ⟨ret_bool (by first | (simp only [okB, hp, Bool.true_or]; done) | (simp [okB, hp]; done) | (simp [okB, hp]; omega)), rfl⟩
        · have hp : plainB c = false := by simp [plainB]; omega
          have d1 : decide ((97 : Int) ≤ (c.toNat : Int)) = true := by simp; omega
          have d2 : decide ((c.toNat : Int) ≤ 122) = false := by simp; omega
          have d3 : decide ((48 : Int) ≤ (c.toNat : Int)) = true := by simp; omega
          have d4 : decide ((c.toNat : Int) ≤ 57) = false := by simp; omega
          go_enter Tryd.func74, Tryd.ntmps74
          go_wp2_with (go_at_call 81; refine hc.mono ?_; rintro e w' ⟨rfl, rfl⟩)
          go_ret
          exact ⟨ret_bool (by first | (simp only [okB, hp, hix, Bool.false_or]; done) | (simp [okB, hp, hix]; done) | (simp [okB, hp, hix]; omega)), rfl⟩
theorem plain_any (c : UInt8) (w : World) :
    Calls Tryd.prog 65 #[.int .u8 (c.toNat : Int)] w fun e w' => e = .returned (.bool (plainB c)) ∧ w = w' := by
  have hlt := c.toNat_lt
  by_cases h1 : c.toNat < 48
  · have hp : plainB c = false := by simp [plainB]; omega
    go_enter Tryd.func65, Tryd.ntmps65
    go_wp2
    go_ret
    exact ⟨ret_bool (by first | rfl | (simp; done) | (simp; omega)), rfl⟩
  · by_cases h2 : c.toNat ≤ 57
    · have hp : plainB c = true := by simp [plainB]; omega
      go_enter Tryd.func65, Tryd.ntmps65
      go_wp2
      go_ret
      exact ⟨ret_bool (by first | rfl | (simp; done) | (simp; omega)), rfl⟩
    · by_cases h3 : c.toNat < 97
      · have hp : plainB c = false := by simp [plainB]; omega
        have d1 : decide ((97 : Int) ≤ (c.toNat : Int)) = false := by simp; omega
        have d2 : decide ((48 : Int) ≤ (c.toNat : Int)) = true := by simp; omega
        have d3 : decide ((c.toNat : Int) ≤ 57) = false := by simp; omega
        go_enter Tryd.func65, Tryd.ntmps65
        go_wp2
        go_ret
        exact ⟨ret_bool (by first | rfl | (simp; done) | (simp; omega)), rfl⟩
      · by_cases h4 : c.toNat ≤ 122
        · have hp : plainB c = true := by simp [plainB]; omega
          go_enter Tryd.func65, Tryd.ntmps65
          go_wp2
          go_ret
          exact ⟨ret_bool (by first | rfl | (simp; done) | (simp; omega)), rfl⟩
        · have hp : plainB c = false := by simp [plainB]; omega
          have d1 : decide ((97 : Int) ≤ (c.toNat : Int)) = true := by simp; omega
          have d2 : decide ((c.toNat : Int) ≤ 122) = false := by simp; omega
          have d3 : decide ((48 : Int) ≤ (c.toNat : Int)) = true := by simp; omega
          have d4 : decide ((c.toNat : Int) ≤ 57) = false := by simp; omega
          go_enter Tryd.func65, Tryd.ntmps65
          go_wp2
          go_ret
          exact ⟨ret_bool (by first | rfl | (simp; done) | (simp; omega)), rfl⟩
set_option maxHeartbeats 400000 in
theorem spells_any (a s : ByteArray) (w : World) (hs : s.size ≤ maxLen) :
    Calls Tryd.prog 63 #[.string a, .string s] w fun e w' => e = .returned (.bool (spellsB a.data.toList s.data.toList)) ∧ w = w' := by
  unfold maxLen at hs
  go_enter Tryd.func63, Tryd.ntmps63
  go_wp2
  go_loop [8] (fun i => ∃ k : Nat, k ≤ s.size ∧ i = .int .i64 k ∧ Spelt a.data.toList s.data.toList k) (fun i => s.size - (intOf i).toNat)
  case atStart => exact ⟨0, Nat.zero_le _, rfl, Spelt.zero _ _⟩
  case round =>
    obtain ⟨k, hk, rfl, hsp⟩ := hrel
    by_cases hlt : k < s.size
    · cases ho : okB a.data.toList s[k] with
      | true =>
        have HS := Lib.hid (hsp.next hlt ho)
        clear hsp
        go_wp2_with (go_at_call 74; refine (has_any _ _ _).mono ?_; rintro e w' ⟨rfl, rfl⟩)
        go_round
        case rel => exact ⟨k + 1, by omega, by go_num, HS.out⟩
        case measure => simp [intOf]; omega
      | false =>
        have HS := Lib.hid (Spelt.no hlt ho)
        clear hsp
        go_wp2_with (go_at_call 74; refine (has_any _ _ _).mono ?_; rintro e w' ⟨rfl, rfl⟩)
        go_ret
        exact ⟨ret_bool HS.out.symm, rfl⟩
    · obtain rfl : k = s.size := by omega
      have HS := Lib.hid hsp.yes
      clear hsp
      go_wp2
      go_ret
      exact ⟨ret_bool HS.out, rfl⟩
/-- The library's variable internal/bytealg.MaxLen holds some number. -/
def MaxIs (w : World) : Prop := ∃ m, w.cell? ⟨0, 0, none⟩ = some (.int .i64 m)
theorem maxIs_of (W : World) (h : W.ShapedOpen Tryd.prog) : MaxIs W :=
  cell_of_shapedOpen_int (g := 0) (t := 3) h (of_decide_eq_true (by kernel_rfl)) (zero := #[.int .i64 0]) (by kernel_rfl) rfl (by kernel_rfl) (by kernel_rfl) Tryd.underlying3
theorem cell_lt {w : World} {a : Addr} {v : Value} (h : w.cell? a = some v) : a.block < w.heap.size := by
  rcases Nat.lt_or_ge a.block w.heap.size with hlt | hge
  · exact hlt
  · have hn : w.heap[a.block]? = none := Array.getElem?_eq_none hge
    simp [World.cell?, hn] at h
theorem MaxIs.lt {W : World} (h : MaxIs W) : 0 < W.heap.size := by
  obtain ⟨m, hm⟩ := h
  exact cell_lt hm
theorem MaxIs.keep {W W' : World} (h : MaxIs W) (hb : Below W.heap.size W W') : MaxIs W' :=
  h.imp fun _ hm => (hb.cell (p := ⟨0, 0, none⟩) h.lt).trans hm
theorem split_any (s : ByteArray) (w : World) (hs : s.size ≤ 32) (hM : MaxIs w) :
    Calls Tryd.prog 73 #[.string s, .string ⟨#[47]⟩] w fun e w' => ∃ P : List ByteArray, P.map (·.data.toList) = Lib.splitK [47] 0 (Lib.count s.data.toList [47]) s.data.toList ∧ P.length ≤ 33 ∧ (∀ p ∈ P, p.size ≤ 32) ∧
      e = .returned (.slice (some ⟨w.heap.size, 0, none⟩) P.length P.length) ∧ (∀ j (h : j < P.length), w'.cell? ⟨w.heap.size, j, none⟩ = some (.string P[j])) ∧ Below w.heap.size w w' := by
  obtain ⟨m, hm⟩ := hM
  refine (Tryd.strings_Split s ⟨#[47]⟩ m w (by omega) hm (by decide)).mono ?_
  rintro e w' ⟨rfl, rfl⟩
  have hd := Lib.splitB_data ⟨#[47]⟩ 0 (Lib.countB s ⟨#[47]⟩) s
  have hl := Lib.splitB_all ⟨#[47]⟩ (by decide) 0 (Lib.countB s ⟨#[47]⟩) s rfl
  have hc := Lib.countB_le ⟨#[47]⟩ (by decide) s.size s (Nat.le_refl _)
  refine ⟨Lib.splitB ⟨#[47]⟩ 0 (Lib.countB s ⟨#[47]⟩) s, hd, by omega, fun p hp => ?_, by rw [hl], fun j hj => ?_, (Below.refl _ _).alloc (Nat.le_refl _) _⟩
  · have h1 : p.data.toList ∈ Lib.splitK [47] 0 (Lib.count s.data.toList [47]) s.data.toList := by
      rw [← hd]
      exact List.mem_map_of_mem hp
    have := splitK_le _ _ _ h1
    rw [← Lib.size_eq, ← Lib.size_eq] at this
    omega
  · have := cell_of_row (w.alloc (.cells ((Lib.splitB ⟨#[47]⟩ 0 (Lib.countB s ⟨#[47]⟩) s).map Value.string).toArray 9)) w.heap.size j _ _ _ (heap_alloc_new w _)
    rw [this]
    simp [hj]
set_option maxHeartbeats 1000000 in
theorem every_any (s : ByteArray) (w : World) (hs : s.size ≤ 32) (hM : MaxIs w) :
    Calls Tryd.prog 62 #[.string s, .func (.func 63) #[.string ⟨#[45, 95, 46]⟩] #[]] w fun e w' => e = .returned (.bool (keyGo (okB [45, 95, 46]) true s.data.toList)) ∧ Below w.heap.size w w' := by
  have hsp := split_any s w hs hM
  go_enter Tryd.func62, Tryd.ntmps62
  go_wp2_with (go_at_call 73; refine hsp.mono ?_; rintro e w1 ⟨P, hP, hl, hsz, rfl, hc, hb⟩)
  have HP := Lib.hid hP
  have HZ := Lib.hid hsz
  have HC := Lib.hid hc
  have HB := Lib.hid hb
  clear hP hsz hc hb hsp hM
  go_loop [10] (fun i => ∃ k : Nat, k ≤ P.length ∧ i = .int .i64 k ∧ PartsOk P k) (fun i => P.length - (intOf i).toNat)
  case atStart => exact ⟨0, Nat.zero_le _, rfl, PartsOk.zero _⟩
  case round =>
    obtain ⟨k, hk, rfl, hok⟩ := hrel
    by_cases hlt : k < P.length
    · have hcell := HC.out k hlt
      have hz := HZ.out P[k] (List.getElem_mem hlt)
      have hsa := spells_any ⟨#[45, 95, 46]⟩ P[k] w1 (by unfold maxLen; omega)
      cases ho : goodB P[k].data.toList with
      | true =>
        have hsa' : Calls Tryd.prog 63 #[.string ⟨#[45, 95, 46]⟩, .string P[k]] w1 fun e w' => e = .returned (.bool true) ∧ w1 = w' := hsa.mono (by rintro e w' ⟨rfl, rfl⟩; exact ⟨ret_bool ((good_spells _).trans ho), rfl⟩)
        have HS := Lib.hid (hok.next hlt ho)
        clear hok hsa ho
        go_wp2_with (go_at_call 63; refine hsa'.mono ?_; rintro e w' ⟨rfl, rfl⟩)
        go_round
        case rel => exact ⟨k + 1, by omega, by go_num, HS.out⟩
        case measure => simp [intOf]; omega
      | false =>
        have hsa' : Calls Tryd.prog 63 #[.string ⟨#[45, 95, 46]⟩, .string P[k]] w1 fun e w' => e = .returned (.bool false) ∧ w1 = w' := hsa.mono (by rintro e w' ⟨rfl, rfl⟩; exact ⟨ret_bool ((good_spells _).trans ho), rfl⟩)
        have HS := Lib.hid (parts_no HP.out hlt ho)
        clear hok hsa ho
        go_wp2_with (go_at_call 63; refine hsa'.mono ?_; rintro e w' ⟨rfl, rfl⟩)
        go_ret
        exact ⟨ret_bool HS.out.symm, HB.out⟩
    · obtain rfl : k = P.length := by omega
      have HS := Lib.hid (hok.all HP.out)
      clear hok
      go_wp2
      go_ret
      exact ⟨ret_bool HS.out.symm, HB.out⟩
theorem key_any (s : ByteArray) (w : World) (hs : s.size ≤ maxLen) (hM : MaxIs w) :
    Calls Tryd.prog 48 #[.string s] w fun e w' => e = .returned (.bool (keyB s.data.toList)) ∧ Below w.heap.size w w' := by
  unfold maxLen at hs
  by_cases h32 : s.size ≤ 32
  · have c := every_any s w h32 hM
    have HS : Hid (keyB s.data.toList = keyGo (okB [45, 95, 46]) true s.data.toList) := Lib.hid (by unfold keyB; rw [← Lib.size_eq]; simp [h32])
    clear hM
    go_enter Tryd.func48, Tryd.ntmps48
    go_wp2_with (go_at_call 62; refine c.mono ?_; rintro e w1 ⟨rfl, hb⟩)
    go_ret
    exact ⟨ret_bool HS.out.symm, hb⟩
  · have HS : Hid (keyB s.data.toList = false) := Lib.hid (by unfold keyB; rw [← Lib.size_eq]; simp [h32])
    clear hM
    go_enter Tryd.func48, Tryd.ntmps48
    go_wp2
    go_ret
    exact ⟨ret_bool HS.out.symm, Below.refl _ _⟩
set_option maxHeartbeats 2000000 in
theorem rkey_any (s : ByteArray) (w : World) (hs : s.size ≤ maxLen) :
    Calls Tryd.prog 54 #[.string s] w fun e w' => e = .returned (.bool (keyB s.data.toList)) ∧ w = w' := by
  unfold maxLen at hs
  by_cases h0 : s.size < 1
  · have HS : Hid (keyB s.data.toList = false) := Lib.hid (key_short (by rw [← Lib.size_eq]; omega))
    go_enter Tryd.func54, Tryd.ntmps54
    go_wp2
    go_ret
    exact ⟨ret_bool HS.out.symm, rfl⟩
  by_cases h32 : 32 < s.size
  · have HS : Hid (keyB s.data.toList = false) := Lib.hid (key_short (by rw [← Lib.size_eq]; omega))
    go_enter Tryd.func54, Tryd.ntmps54
    go_wp2
    go_ret
    exact ⟨ret_bool HS.out.symm, rfl⟩
  have hz := KeyRun.zero (l := s.data.toList) (by rw [← Lib.size_eq]; omega)
  go_enter Tryd.func54, Tryd.ntmps54
  go_wp2
  go_loop [3] (fun i => ∃ k : Nat, k ≤ s.size ∧ i = .int .i64 k ∧ KeyRun s.data.toList k) (fun i => s.size - (intOf i).toNat)
  case atStart => exact ⟨0, Nat.zero_le _, rfl, hz⟩
  case round =>
    clear hz
    obtain ⟨k, hk, rfl, hr⟩ := hrel
    by_cases hlt : k < s.size
    · by_cases h47 : s[k] = 47
      · have b1 : ((s[k].toNat : Int) == 47) = true := byte_is (n := 47) (by decide) h47
        by_cases hk0 : k = 0
        · subst hk0
          have HS := Lib.hid (hr.wrong hlt h47 (Or.inl rfl))
          clear hr h47
          go_wp2
          go_ret
          exact ⟨ret_bool HS.out.symm, rfl⟩
        · by_cases hkl : k = s.size - 1
          · have HS := Lib.hid (hr.wrong hlt h47 (Or.inr (Or.inl hkl)))
            have f1 : ((k : Int) == (s.size : Int) - 1) = true := by simp; omega
            clear hr h47 hkl
            go_wp2
            go_ret
            exact ⟨ret_bool HS.out.symm, rfl⟩
          · have f1 : ((k : Int) == (s.size : Int) - 1) = false := by simp; omega
            have hl1 : k - 1 < s.size := by omega
            by_cases hp : s[k - 1] = 47
            · have HS := Lib.hid (hr.wrong hlt h47 (Or.inr (Or.inr (by rw [at_list hl1, hp]))))
              have b2 : ((s[k - 1].toNat : Int) == 47) = true := byte_is (n := 47) (by decide) hp
              clear hr h47 hp
              go_wp2
              go_ret
              exact ⟨ret_bool HS.out.symm, rfl⟩
            · have HS := Lib.hid (hr.slash hlt h47 hk0 hkl (by rw [at_list hl1]; simpa using hp))
              have b2 : ((s[k - 1].toNat : Int) == 47) = false := byte_ne (n := 47) hp
              clear hr h47 hp
              go_wp2
              go_round
              case rel => exact ⟨k + 1, by omega, by go_num, HS.out⟩
              case measure => simp [intOf]; omega
      · have b1 : ((s[k].toNat : Int) == 47) = false := byte_ne (n := 47) h47
        cases hp : plainB s[k] with
        | true =>
          have HS := Lib.hid (hr.char hlt h47 (by simp [okB, hp]))
          clear hr h47
          go_wp2_with (go_at_call 65; refine (plain_any _ _).mono ?_; rintro e w' ⟨rfl, rfl⟩)
          go_round
          case rel => exact ⟨k + 1, by omega, by go_num, HS.out⟩
          case measure => simp [intOf]; omega
        | false =>
          by_cases h45 : s[k] = 45
          · have HS := Lib.hid (hr.char hlt h47 (by simp [okB, h45]))
            have t1 : ((s[k].toNat : Int) == 45) = true := byte_is (n := 45) (by decide) h45
            have t2 : ((s[k].toNat : Int) != 45) = false := by rw [bne, t1]; rfl
            clear hr h47 h45
            go_wp2_with (go_at_call 65; refine (plain_any _ _).mono ?_; rintro e w' ⟨rfl, rfl⟩)
            go_round
            case rel => exact ⟨k + 1, by omega, by go_num, HS.out⟩
            case measure => simp [intOf]; omega
          · have t1 : ((s[k].toNat : Int) == 45) = false := byte_ne (n := 45) h45
            have t2 : ((s[k].toNat : Int) != 45) = true := by rw [bne, t1]; rfl
            by_cases h95 : s[k] = 95
            · have HS := Lib.hid (hr.char hlt h47 (by simp [okB, h95]))
              have t3 : ((s[k].toNat : Int) == 95) = true := byte_is (n := 95) (by decide) h95
              have t4 : ((s[k].toNat : Int) != 95) = false := by rw [bne, t3]; rfl
              clear hr h47 h45 h95
              go_wp2_with (go_at_call 65; refine (plain_any _ _).mono ?_; rintro e w' ⟨rfl, rfl⟩)
              go_round
              case rel => exact ⟨k + 1, by omega, by go_num, HS.out⟩
              case measure => simp [intOf]; omega
            · have t3 : ((s[k].toNat : Int) == 95) = false := byte_ne (n := 95) h95
              have t4 : ((s[k].toNat : Int) != 95) = true := by rw [bne, t3]; rfl
              by_cases h46 : s[k] = 46
              · have HS := Lib.hid (hr.char hlt h47 (by simp [okB, h46]))
                have t5 : ((s[k].toNat : Int) == 46) = true := byte_is (n := 46) (by decide) h46
                have t6 : ((s[k].toNat : Int) != 46) = false := by rw [bne, t5]; rfl
                clear hr h47 h45 h95 h46
                go_wp2_with (go_at_call 65; refine (plain_any _ _).mono ?_; rintro e w' ⟨rfl, rfl⟩)
                go_round
                case rel => exact ⟨k + 1, by omega, by go_num, HS.out⟩
                case measure => simp [intOf]; omega
              · have HS := Lib.hid (hr.bad hlt h47 (by simp [okB, hp, h45, h95, h46]))
                have t5 : ((s[k].toNat : Int) == 46) = false := byte_ne (n := 46) h46
                have t6 : ((s[k].toNat : Int) != 46) = true := by rw [bne, t5]; rfl
                clear hr h47 h45 h95 h46
                go_wp2_with (go_at_call 65; refine (plain_any _ _).mono ?_; rintro e w' ⟨rfl, rfl⟩)
                go_ret
                exact ⟨ret_bool HS.out.symm, rfl⟩
    · obtain rfl : k = s.size := by omega
      have HS := Lib.hid (hr.all (by omega))
      clear hr
      go_wp2
      go_ret
      exact ⟨ret_bool HS.out.symm, rfl⟩
end Go.Proofs.YtohnkagabpefdaaDoor
