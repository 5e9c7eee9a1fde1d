/-
  What the reference's Name answers. Conditions: the list can be read; lengths that Go's int holds.
-/
import Derived.Test.YtaoeabnpmpimgaaDoorRight
namespace Go.Proofs.YtaoeabnpmpimgaaDoor
open Go.RowKit Go.Icz

theorem letter_is (c : Nat) (w : World) : Calls Tryd.prog 74 #[.int .u8 c] w fun e w' => e = .returned (.bool (letter c)) ∧ w = w' := by
  go_enter Tryd.func74, Tryd.ntmps74
  go_wp2
  all_goals
    go_ret
    refine ⟨?_, rfl⟩
    show Ending.returned (Value.bool _) = _
    congr 2
    rw [Bool.eq_iff_iff]
    simp [letter]
    omega
theorem digit_is (c : Nat) (w : World) : Calls Tryd.prog 75 #[.int .u8 c] w fun e w' => e = .returned (.bool (digit c)) ∧ w = w' := by
  go_enter Tryd.func75, Tryd.ntmps75
  go_wp2
  all_goals
    go_ret
    refine ⟨?_, rfl⟩
    show Ending.returned (Value.bool _) = _
    congr 2
    rw [Bool.eq_iff_iff]
    simp [digit]
    omega
set_option maxHeartbeats 1000000 in
set_option maxRecDepth 100000 in
theorem RefName_is (s : ByteArray) (w : World) (hs : s.size ≤ 9223372036854775807) : Calls Tryd.prog 59 #[.string s] w fun e w' => e = .returned (.bool (nameS s.data.toList)) ∧ w' = w := by
  have hlen := size_len s
  go_enter Tryd.func59, Tryd.ntmps59
  go_wp2
  go_loopw [3] (fun iv wr => ∃ i : Nat, iv = .int .i64 i ∧ i ≤ s.size ∧ wr = w ∧ Hid (nameTail 0 s.data.toList = nameTail i (s.data.toList.drop i))) (fun iv _ => s.size - (intOf iv).toNat)
  case atStart => exact ⟨0, rfl, by omega, rfl, hid (by simp)⟩
  case round =>
    obtain ⟨i, rfl, hi, rfl, HX⟩ := hrel
    by_cases hlt : i < s.size
    · have HS : Hid (nameTail i (s.data.toList.drop i) = ((letter (s[i]).toNat || (digit (s[i]).toNat && decide (i ≠ 0))) && nameTail (i + 1) (s.data.toList.drop (i + 1)))) := hid (by rw [drop_cons hlt]; rfl)
      have hl := letter_is (s[i]).toNat
      have hd := digit_is (s[i]).toNat
      generalize letter (s[i]).toNat = p at *
      generalize digit (s[i]).toNat = q at *
      have goesOn : Hid (nameTail i (s.data.toList.drop i) = nameTail (i + 1) (s.data.toList.drop (i + 1))) → Hid (nameTail 0 s.data.toList = nameTail (i + 1) (s.data.toList.drop (i + 1))) := fun h => hid (HX.out.trans h.out)
      have stops : Hid (nameTail i (s.data.toList.drop i) = false) → Hid (nameS s.data.toList = false) := fun h => hid (by unfold nameS; rw [HX.out, h.out, Bool.and_false])
      cases p with
      | true =>
        have HG := goesOn (hid (by rw [HS.out]; simp))
        clear goesOn stops HS HX hd
        go_wp2_with (go_at_call 74; refine (hl _).mono ?_; rintro e w2 ⟨rfl, rfl⟩)
        go_roundw
        case rel => exact ⟨i + 1, by go_num, by omega, trivial, HG⟩
        case measure => simp [intOf]; omega
      | false =>
        by_cases h0 : i = 0
        · have HF := stops (hid (by rw [HS.out]; simp [h0]))
          clear goesOn stops HS HX
          subst h0
          go_wp2_with (first | (go_at_call 74; refine (hl _).mono ?_; rintro e w2 ⟨rfl, rfl⟩) | (go_at_call 75; refine (hd _).mono ?_; rintro e w3 ⟨rfl, rfl⟩))
          go_ret
          exact ⟨by rw [HF.out]; rfl, rfl⟩
        · have hz : ((i : Int) == 0) = false := by simpa using h0
          cases q with
          | true =>
            have HG := goesOn (hid (by rw [HS.out]; simp [h0]))
            clear goesOn stops HS HX
            go_wp2_with (first | (go_at_call 74; refine (hl _).mono ?_; rintro e w2 ⟨rfl, rfl⟩) | (go_at_call 75; refine (hd _).mono ?_; rintro e w3 ⟨rfl, rfl⟩))
            go_roundw
            case rel => exact ⟨i + 1, by go_num, by omega, trivial, HG⟩
            case measure => simp [intOf]; omega
          | false =>
            have HF := stops (hid (by rw [HS.out]; simp))
            clear goesOn stops HS HX
            go_wp2_with (first | (go_at_call 74; refine (hl _).mono ?_; rintro e w2 ⟨rfl, rfl⟩) | (go_at_call 75; refine (hd _).mono ?_; rintro e w3 ⟨rfl, rfl⟩))
            go_ret
            exact ⟨by rw [HF.out]; rfl, rfl⟩
    · have hie : i = s.size := by omega
      have HT : Hid (nameTail 0 s.data.toList = true) := hid (by rw [HX.out, drop_end hlt]; rfl)
      subst hie
      go_wp2
      all_goals
        go_ret
        refine ⟨?_, rfl⟩
        show Ending.returned (Value.bool _) = _
        congr 2
        rw [Bool.eq_iff_iff]
        simp [nameS, HT.out, hlen]
        omega

end Go.Proofs.YtaoeabnpmpimgaaDoor
