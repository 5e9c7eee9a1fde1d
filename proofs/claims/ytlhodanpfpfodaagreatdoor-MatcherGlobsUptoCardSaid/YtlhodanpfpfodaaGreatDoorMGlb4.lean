/-
  The reference's Glob. Conditions: sizes.
-/
import Derived.Test.YtlhodanpfpfodaaGreatDoorMGlb3
namespace Go.Proofs.YtlhodanpfpfodaaGreatDoor
open Go.RowKit Go.Icz
theorem KT_at {w : World} {A : Option Addr} {n c : Nat} {l : List Gl.Tok} (h : KT.Rd w (.slice A n c) l) {j : Nat} (hj : j < l.length) : ∃ b off, A = some ⟨b, off, none⟩ ∧ b < w.heap.size ∧ ∃ kd : Int, w.cell? ⟨b, off + j * 2, none⟩ = some (.int .i64 kd) ∧ (l[j]'hj = .bar → kd = 3) ∧ (∀ g, l[j]'hj = .sg g → kd ≠ 3) := by
  obtain ⟨b, off, hA, hb, hc⟩ := h.at hj
  have h0 := fun u h => hc 0 u (by decide) h
  have e : off + (j * KT.z + 0) = off + j * 2 := by show off + (j * 2 + 0) = _; omega
  rw [e] at h0
  refine ⟨b, off, hA, hb, ?_⟩
  cases hl : l[j] with
  | bar =>
    rw [hl] at h0
    exact ⟨3, h0 _ rfl, (fun _ => rfl), (fun g h => by cases h)⟩
  | sg g =>
    rw [hl] at h0
    rcases g with _ | _ | r
    · exact ⟨1, h0 _ rfl, (fun h => by cases h), (fun _ _ => by decide)⟩
    · exact ⟨2, h0 _ rfl, (fun h => by cases h), (fun _ _ => by decide)⟩
    · exact ⟨0, h0 _ rfl, (fun h => by cases h), (fun _ _ => by decide)⟩
set_option maxHeartbeats 8000000 in
set_option maxRecDepth 100000 in
theorem R6Glob_is (p s : ByteArray) (w : World) (hp : p.size ≤ 1048576) (hs : s.size ≤ 1048576) :
    Calls Tryz.prog 21 #[.string p, .string s] w fun e w' => e = .returned (.bool (globS p.data.toList s.data.toList)) ∧ Below w.heap.size w w' := by
  have hSi := signs_is p w hp
  have hRu := fun w1 => runes_is s w1 hs
  have hrl := (runesS_le s.data.toList).1
  rw [size_len] at hrl
  have HG : Hid (globS p.data.toList s.data.toList = ((Gl.split (Gl.toks (runesS p.data.toList)) []).any fun q => Gl.fit q (runesS s.data.toList))) := hid rfl
  generalize globS p.data.toList s.data.toList = goal at *
  generalize Gl.toks (runesS p.data.toList) = l at *
  generalize runesS s.data.toList = t at *
  go_enter Tryz.func21, Tryz.ntmps21
  go_wp2_with (first
    | (go_at_call 51; refine hSi.mono ?_; rintro e w2 ⟨v2, rfl, o2, hll, b2⟩; clear hSi; obtain ⟨A, c, rfl, hc⟩ := o2.rd.form)
    | (go_at_call 52; refine (hRu _).mono ?_; rintro e w3 ⟨v3, rfl, o3, b3⟩; clear hRu))
  have hR := (o2.below b3).rd
  have hI := o3.rd
  have bt3 := b2.trans (b3.mono b2.size)
  clear o2 o3 b2 b3
  go_loopw [7, 8] (fun fv iv wr => ∃ (i f : Nat) (part : List Gl.Sg), iv = .int .i64 i ∧ fv = .int .i64 f ∧ Below w3.heap.size w3 wr ∧ i ≤ l.length + 1 ∧ f ≤ i ∧ Hid (Gl.GAt l t i f part)) (fun _ iv _ => (l.length + 1) - (intOf iv).toNat)
  case atStart => exact ⟨0, 0, [], rfl, rfl, Below.refl _ _, by omega, by omega, hid (Gl.GAt.start l t)⟩
  case round =>
    obtain ⟨i, f, part, rfl, rfl, hbw, hil, hfi, HX⟩ := hrel
    have bt := bt3.trans (hbw.mono bt3.size)
    by_cases hi : i ≤ l.length
    · have hsl := (hR.below hbw).part f i hfi hi
      have hpe : (l.drop f).take (i - f) = part.map .sg := by rw [← HX.out.slice hi, List.drop_take]
      rw [hpe] at hsl
      have hpl : part.length ≤ 1048576 := by
        have := congrArg List.length hpe
        rw [List.length_take, List.length_drop, List.length_map] at this
        omega
      have hF0 := fun va (h : KT.Rd wr va (part.map .sg)) => fits6_is va _ part t wr h (hI.below hbw) hpl (by omega)
      have hI2 := hI
      by_cases hlt : i < l.length
      · obtain ⟨b, off, rfl, hb, kd, c0, q1, q2⟩ := KT_at hR hlt
        rw [← hbw.cell (p := ⟨b, off + i * 2, none⟩) hb] at c0
        have hsl2 : KT.Rd wr (.slice (some ⟨b, off + f * 2, none⟩) (i - f) (c - f)) (part.map .sg) := by
          have e : sliced (some ⟨b, off, none⟩) f i c KT.z = .slice (some ⟨b, off + f * 2, none⟩) (i - f) (c - f) := by
            unfold sliced
            rw [if_neg (by omega)]
            simp only [Option.map_some, add_flat]
            rfl
          rw [e] at hsl
          exact hsl
        have hFt := hF0 _ hsl2
        clear hsl2 hF0 hI2
        cases hl : l[i] with
        | sg g =>
          have hne := q2 g hl
          have H2 := hid (HX.out.sign hlt hl)
          have hne2 : (kd != 3) = true := by simpa using hne
          clear q1 q2 hFt hsl HX hl hne hR hI hpe
          go_wp2_with fail
          go_roundw
          case rel => exact ⟨i + 1, f, _, by go_num, rfl, hbw, by omega, by omega, H2⟩
          case measure => simp [intOf]; omega
        | bar =>
          have he := q1 hl
          subst he
          clear q1 q2
          cases hf : Gl.fit part t with
          | true =>
            have HE : Hid (goal = true) := hid (by rw [HG.out]; exact HX.out.yes hi (fun _ => hl) hf)
            rw [hf] at hFt
            clear HG HX hl hf hR hI hpe hsl
            go_wp2_with (go_at_call 53; refine hFt.mono ?_; rintro e w5 ⟨rfl, b5⟩; clear hFt)
            go_ret
            exact ⟨by rw [HE.out]; rfl, bt.trans (b5.mono bt.size)⟩
          | false =>
            have H2 := hid (HX.out.bar hlt hl hf)
            rw [hf] at hFt
            clear HX hl hf hR hI hpe hsl
            go_wp2_with (go_at_call 53; refine hFt.mono ?_; rintro e w5 ⟨rfl, b5⟩; clear hFt)
            go_roundw
            case rel => exact ⟨i + 1, i + 1, _, by go_num, by go_num, hbw.trans (b5.mono hbw.size), by omega, by omega, H2⟩
            case measure => simp [intOf]; omega
      · have HIE : Hid (i = l.length) := hid (by omega)
        have hlti : ¬ (i : Int) < (l.length : Int) := by omega
        by_cases hcf : c = f
        · have e : sliced A f i c KT.z = .slice A (i - f) (c - f) := by unfold sliced; rw [if_pos hcf]
          rw [e] at hsl
          have hFt := hF0 _ hsl
          clear hF0 hI2 e
          have hcft : (c = f) = True := eq_true hcf
          clear hcf
          cases hf : Gl.fit part t with
          | true =>
            have HE : Hid (goal = true) := hid (by rw [HG.out]; exact HX.out.yes hi (fun h => absurd h hlt) hf)
            rw [hf] at hFt
            clear HG HX hf hR hI hpe hsl
            go_wp2_with (go_at_call 53; refine hFt.mono ?_; rintro e w5 ⟨rfl, b5⟩; clear hFt)
            go_ret
            exact ⟨by rw [HE.out]; rfl, bt.trans (b5.mono bt.size)⟩
          | false =>
            have H2 := hid (HX.out.last HIE.out hf)
            rw [hf] at hFt
            clear HX hf hR hI hpe hsl
            go_wp2_with (go_at_call 53; refine hFt.mono ?_; rintro e w5 ⟨rfl, b5⟩; clear hFt)
            go_roundw
            case rel => exact ⟨i + 1, i + 1, _, by go_num, by go_num, hbw.trans (b5.mono hbw.size), by omega, by omega, H2⟩
            case measure => simp [intOf]; omega
        · have e : sliced A f i c KT.z = .slice (A.map fun x => x.add (f * 2)) (i - f) (c - f) := by unfold sliced; rw [if_neg hcf]; rfl
          rw [e] at hsl
          have hFt := hF0 _ hsl
          clear hF0 hI2 e
          cases hf : Gl.fit part t with
          | true =>
            have HE : Hid (goal = true) := hid (by rw [HG.out]; exact HX.out.yes hi (fun h => absurd h hlt) hf)
            rw [hf] at hFt
            clear HG HX hf hR hI hpe hsl
            go_wp2_with (go_at_call 53; refine hFt.mono ?_; rintro e w5 ⟨rfl, b5⟩; clear hFt)
            go_ret
            exact ⟨by rw [HE.out]; rfl, bt.trans (b5.mono bt.size)⟩
          | false =>
            have H2 := hid (HX.out.last HIE.out hf)
            rw [hf] at hFt
            clear HX hf hR hI hpe hsl
            go_wp2_with (go_at_call 53; refine hFt.mono ?_; rintro e w5 ⟨rfl, b5⟩; clear hFt)
            go_roundw
            case rel => exact ⟨i + 1, i + 1, _, by go_num, by go_num, hbw.trans (b5.mono hbw.size), by omega, by omega, H2⟩
            case measure => simp [intOf]; omega
    · have HE : Hid (goal = false) := hid (by rw [HG.out]; exact HX.out.2.2.2 (by omega))
      have hni : ¬ (i : Int) ≤ (l.length : Int) := by omega
      clear HX hR hI
      go_wp2_with fail
      go_ret
      exact ⟨by rw [HE.out]; rfl, bt⟩
end Go.Proofs.YtlhodanpfpfodaaGreatDoor
