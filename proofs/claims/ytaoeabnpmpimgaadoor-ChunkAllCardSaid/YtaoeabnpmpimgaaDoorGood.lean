/-
  What the reference's Good and Value answer. Conditions: lengths that Go's int holds.
-/
import Derived.Test.YtaoeabnpmpimgaaDoorRuneDec
import Derived.Test.YtaoeabnpmpimgaaDoorRune
import Derived.Lib.ValidLaws
namespace Go.Proofs.YtaoeabnpmpimgaaDoor
open Go.RowKit Go.Icz
/-- One step of Good. -/
theorem good_step (l : B8) (h : 0 < l.length) :
    (runeN ⟨l.toArray⟩ = (0, 0) ∧ Lib.validD l = false) ∨
    (1 ≤ (runeN ⟨l.toArray⟩).2 ∧ (runeN ⟨l.toArray⟩).2 ≤ l.length ∧ Lib.validD l = Lib.validD (l.drop (runeN ⟨l.toArray⟩).2)) := by
  have hne : l ≠ [] := List.length_pos_iff.1 h
  have hs : 0 < (⟨l.toArray⟩ : ByteArray).size := by rw [Lib.size_mk]; exact h
  have hv := Lib.validD_step l hne
  have hw := Lib.decodeL_width l
  rcases rune_decode ⟨l.toArray⟩ hs with ⟨h1, h2⟩ | ⟨h1, h2⟩
  · left
    refine ⟨h2, ?_⟩
    rw [hv]
    have e : Lib.decodeL l = (65533, 1) := h1
    rw [e]
    simp
  · right
    have e : Utf8.decode ⟨l.toArray⟩ 0 = Lib.decodeL l := rfl
    rw [h2, e]
    refine ⟨hw, ?_, ?_⟩
    · exact Lib.decodeL_le l hne
    · rw [hv, if_neg]
      rintro ⟨q1, q2⟩
      exact h1 (by rw [e]; exact Prod.ext q1 q2)
set_option maxHeartbeats 1000000 in
set_option maxRecDepth 100000 in
theorem Good_is (l : B8) (w : World) (hs : l.length ≤ 9223372036854775807) :
    Calls Tryd.prog 76 #[.string ⟨l.toArray⟩] w fun e w' => e = .returned (.bool (Lib.validD l)) ∧ w' = w := by
  go_enter Tryd.func76, Tryd.ntmps76
  go_wp2
  go_loopw [0] (fun sv wr => ∃ cur : B8, sv = .string ⟨cur.toArray⟩ ∧ cur.length ≤ l.length ∧ wr = w ∧ Hid (Lib.validD l = Lib.validD cur)) (fun sv _ => match sv with | .string b => b.size | _ => 0)
  case atStart => exact ⟨l, rfl, by omega, rfl, hid rfl⟩
  case round =>
    obtain ⟨cur, rfl, hcl, rfl, HX⟩ := hrel
    have hR := Rune_is ⟨cur.toArray⟩ wr (by rw [Lib.size_mk]; omega)
    by_cases h0 : 0 < cur.length
    · have h0' : (0 : Int) < cur.length := by omega
      rcases good_step cur h0 with ⟨h1, h2⟩ | ⟨h1, h2, h3⟩
      · have HF : Hid (Lib.validD l = false) := hid (by rw [HX.out, h2])
        rw [h1] at hR
        clear HX h2 h1
        go_wp2_with (go_at_call 84; refine hR.mono ?_; rintro e w2 ⟨rfl, rfl⟩; clear hR)
        go_ret
        exact ⟨by rw [HF.out]; rfl, rfl⟩
      · have HY : Hid (Lib.validD l = Lib.validD (cur.drop (runeN ⟨cur.toArray⟩).2)) := hid (by rw [HX.out, h3])
        clear HX h3
        generalize runeN ⟨cur.toArray⟩ = r at *
        obtain ⟨c, n⟩ := r
        simp only [] at h1 h2 hR HY
        have hn0 : ((n : Int) == 0) = false := by rw [beq_eq_false_iff_ne]; omega
        go_wp2_with (go_at_call 84; refine hR.mono ?_; rintro e w2 ⟨rfl, rfl⟩; clear hR)
        have hx : ({ data := List.toArray cur } : ByteArray).extract n cur.length = ⟨(cur.drop n).toArray⟩ := Lib.extract_from ⟨cur.toArray⟩ n
        rw [hx]
        refine ⟨⟨cur.drop n, rfl, by rw [List.length_drop]; omega, trivial, HY⟩, ?_⟩
        show (cur.drop n).length < cur.length
        rw [List.length_drop]
        omega
    · have hc0 : cur = [] := List.eq_nil_of_length_eq_zero (by omega)
      subst hc0
      have HF : Hid (Lib.validD l = true) := hid (by rw [HX.out]; rfl)
      clear HX hR
      go_wp2
      go_ret
      exact ⟨by rw [HF.out]; rfl, rfl⟩
set_option maxHeartbeats 1000000 in
set_option maxRecDepth 100000 in
theorem RefValue_is (l : B8) (w : World) (hs : l.length ≤ 9223372036854775807) :
    Calls Tryd.prog 60 #[.string ⟨l.toArray⟩] w fun e w' => e = .returned (.bool (valueS l)) ∧ w' = w := by
  have hG := Good_is l w hs
  by_cases h1 : 1 ≤ l.length
  · have h1' : (1 : Int) ≤ l.length := by omega
    by_cases h2 : l.length ≤ 128
    · have h2' : (l.length : Int) ≤ 128 := by omega
      have HV : Hid (valueS l = Lib.validD l) := hid (by simp [valueS, h1, h2])
      go_enter Tryd.func60, Tryd.ntmps60
      go_wp2_with (go_at_call 76; refine hG.mono ?_; rintro e w2 ⟨rfl, rfl⟩; clear hG)
      go_ret
      exact ⟨by rw [HV.out]; rfl, rfl⟩
    · have h2' : ¬ (l.length : Int) ≤ 128 := by omega
      have HV : Hid (valueS l = false) := hid (by simp [valueS, h2])
      clear hG
      go_enter Tryd.func60, Tryd.ntmps60
      go_wp2
      go_ret
      exact ⟨by rw [HV.out]; rfl, rfl⟩
  · have h1' : ¬ (1 : Int) ≤ l.length := by omega
    have HV : Hid (valueS l = false) := hid (by simp [valueS, h1])
    clear hG
    go_enter Tryd.func60, Tryd.ntmps60
    go_wp2
    go_ret
    exact ⟨by rw [HV.out]; rfl, rfl⟩
end Go.Proofs.YtaoeabnpmpimgaaDoor
