/-
  What the two Gets answer, and the reference's Name. Conditions: the list can be read; lengths that Go's int holds.
-/
import Derived.Test.YtlhodanpfpfodaaGreatDoorRight
namespace Go.Proofs.YtlhodanpfpfodaaGreatDoor
open Go.RowKit Go.Icz

theorem letter_is (c : Nat) (w : World) : Calls Tryz.prog 81 #[.int .u8 c] w fun e w' => e = .returned (.bool (letter c)) ∧ w = w' := by
  go_enter Tryz.func81, Tryz.ntmps81
  go_wp2
  all_goals
    go_ret
    refine ⟨?_, rfl⟩
    show Ending.returned (Value.bool _) = _
    congr 2
    rw [Bool.eq_iff_iff]
    simp [letter]
    omega
theorem digit_is (c : Nat) (w : World) : Calls Tryz.prog 82 #[.int .u8 c] w fun e w' => e = .returned (.bool (digit c)) ∧ w = w' := by
  go_enter Tryz.func82, Tryz.ntmps82
  go_wp2
  all_goals
    go_ret
    refine ⟨?_, rfl⟩
    show Ending.returned (Value.bool _) = _
    congr 2
    rw [Bool.eq_iff_iff]
    simp [digit]
    omega
set_option maxHeartbeats 1000000 in
set_option maxRecDepth 100000 in
theorem RefName_is (s : ByteArray) (w : World) (hs : s.size ≤ 9223372036854775807) : Calls Tryz.prog 61 #[.string s] w fun e w' => e = .returned (.bool (nameS s.data.toList)) ∧ w' = w := by
  have hlen := size_len s
  go_enter Tryz.func61, Tryz.ntmps61
  go_wp2
  go_loopw [3] (fun iv wr => ∃ i : Nat, iv = .int .i64 i ∧ i ≤ s.size ∧ wr = w ∧ Hid (nameTail 0 s.data.toList = nameTail i (s.data.toList.drop i))) (fun iv _ => s.size - (intOf iv).toNat)
  case atStart => exact ⟨0, rfl, by omega, rfl, hid (by simp)⟩
  case round =>
    obtain ⟨i, rfl, hi, rfl, HX⟩ := hrel
    by_cases hlt : i < s.size
    · have HS : Hid (nameTail i (s.data.toList.drop i) = ((letter (s[i]).toNat || (digit (s[i]).toNat && decide (i ≠ 0))) && nameTail (i + 1) (s.data.toList.drop (i + 1)))) := hid (by rw [drop_cons hlt]; rfl)
      have hl := letter_is (s[i]).toNat
      have hd := digit_is (s[i]).toNat
      generalize letter (s[i]).toNat = p at *
      generalize digit (s[i]).toNat = q at *
      have goesOn : Hid (nameTail i (s.data.toList.drop i) = nameTail (i + 1) (s.data.toList.drop (i + 1))) → Hid (nameTail 0 s.data.toList = nameTail (i + 1) (s.data.toList.drop (i + 1))) := fun h => hid (HX.out.trans h.out)
      have stops : Hid (nameTail i (s.data.toList.drop i) = false) → Hid (nameS s.data.toList = false) := fun h => hid (by unfold nameS; rw [HX.out, h.out, Bool.and_false])
      cases p with
      | true =>
        have HG := goesOn (hid (by rw [HS.out]; simp))
        clear goesOn stops HS HX hd
        go_wp2_with (go_at_call 81; refine (hl _).mono ?_; rintro e w2 ⟨rfl, rfl⟩)
        go_roundw
        case rel => exact ⟨i + 1, by go_num, by omega, trivial, HG⟩
        case measure => simp [intOf]; omega
      | false =>
        by_cases h0 : i = 0
        · have HF := stops (hid (by rw [HS.out]; simp [h0]))
          clear goesOn stops HS HX
          subst h0
          go_wp2_with (first | (go_at_call 81; refine (hl _).mono ?_; rintro e w2 ⟨rfl, rfl⟩) | (go_at_call 82; refine (hd _).mono ?_; rintro e w3 ⟨rfl, rfl⟩))
          go_ret
          exact ⟨by rw [HF.out]; rfl, rfl⟩
        · have hz : ((i : Int) == 0) = false := by simpa using h0
          cases q with
          | true =>
            have HG := goesOn (hid (by rw [HS.out]; simp [h0]))
            clear goesOn stops HS HX
            go_wp2_with (first | (go_at_call 81; refine (hl _).mono ?_; rintro e w2 ⟨rfl, rfl⟩) | (go_at_call 82; refine (hd _).mono ?_; rintro e w3 ⟨rfl, rfl⟩))
            go_roundw
            case rel => exact ⟨i + 1, by go_num, by omega, trivial, HG⟩
            case measure => simp [intOf]; omega
          | false =>
            have HF := stops (hid (by rw [HS.out]; simp))
            clear goesOn stops HS HX
            go_wp2_with (first | (go_at_call 81; refine (hl _).mono ?_; rintro e w2 ⟨rfl, rfl⟩) | (go_at_call 82; refine (hd _).mono ?_; rintro e w3 ⟨rfl, rfl⟩))
            go_ret
            exact ⟨by rw [HF.out]; rfl, rfl⟩
    · have hie : i = s.size := by omega
      have HT : Hid (nameTail 0 s.data.toList = true) := hid (by rw [HX.out, drop_end hlt]; rfl)
      subst hie
      go_wp2
      all_goals
        go_ret
        refine ⟨?_, rfl⟩
        show Ending.returned (Value.bool _) = _
        congr 2
        rw [Bool.eq_iff_iff]
        simp [nameS, HT.out, hlen]
        omega

def getS (s : B8) : List Lab → B8 × Bool
  | [] => ([], false)
  | x :: t => if x.1 = s then (x.2, true) else getS s t
set_option maxHeartbeats 1000000 in
set_option maxRecDepth 100000 in
theorem Get_is (v : Value) (l : List Lab) (s : B8) (w : World) (h : RdL w v l) (hm : l.length ≤ 4611686018427387904) :
    Calls Tryz.prog 68 #[v, .string ⟨s.toArray⟩] w fun e w' => e = .returned (.tuple #[.string ⟨(getS s l).1.toArray⟩, .bool (getS s l).2]) ∧ Below w.heap.size w w' := by
  obtain ⟨A, c, rfl, hlc, hr⟩ := h
  go_enter Tryz.func68, Tryz.ntmps68
  go_wp2
  go_loopw [10] (fun iv wr => ∃ i : Nat, iv = .int .i64 i ∧ i ≤ l.length ∧ Below w.heap.size w wr ∧ Hid (getS s l = getS s (l.drop i))) (fun iv _ => l.length - (intOf iv).toNat)
  case atStart => exact ⟨0, rfl, by omega, Below.refl _ _, hid (by simp)⟩
  case round =>
    obtain ⟨i, rfl, hi, hbw, HX⟩ := hrel
    by_cases hlt : i < l.length
    · obtain ⟨b, o, rfl, hb, hc⟩ := hr (by omega)
      have a0 := (hbw.cell (p := ⟨b, o + i * 2, none⟩) hb).trans (hc i hlt).1
      have a1 := (hbw.cell (p := ⟨b, o + i * 2 + 1, none⟩) hb).trans (hc i hlt).2
      have HS : Hid (getS s (l.drop i) = if (l[i]).1 = s then ((l[i]).2, true) else getS s (l.drop (i + 1))) := hid (by rw [List.drop_eq_getElem_cons hlt]; rfl)
      have hbo := hbw.size
      clear hc
      generalize l[i] = x at *
      obtain ⟨x1, x2⟩ := x
      simp only [] at a0 a1 HS
      by_cases he : x1 = s
      · subst he
        have HY : Hid (getS x1 l = (x2, true)) := hid (by rw [HX.out, HS.out, if_pos rfl])
        go_wp2
        go_ret2
        exact ⟨by rw [HY.out]; rfl, hbw.alloc hbo _⟩
      · have HY : Hid (getS s l = getS s (l.drop (i + 1))) := hid (by rw [HX.out, HS.out, if_neg he])
        have hne : (x1 == s) = false := by simpa using he
        go_wp2
        go_roundw
        case rel => exact ⟨i + 1, by go_num, by omega, hbw.alloc hbo _, HY⟩
        case measure => simp [intOf]; omega
    · have HY : Hid (getS s l = ([], false)) := hid (by rw [HX.out, List.drop_eq_nil_of_le (by omega)]; rfl)
      go_wp2
      go_ret2
      exact ⟨by rw [HY.out]; rfl, hbw⟩
end Go.Proofs.YtlhodanpfpfodaaGreatDoor
