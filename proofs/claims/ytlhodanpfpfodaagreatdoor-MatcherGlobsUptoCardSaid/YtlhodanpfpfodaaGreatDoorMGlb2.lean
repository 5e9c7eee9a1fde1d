/-
  The reference's signs of a pattern. Conditions: sizes.
-/
import Derived.Test.YtlhodanpfpfodaaGreatDoorMGlb
namespace Go.Proofs.YtlhodanpfpfodaaGreatDoor
open Go.RowKit Go.Icz
set_option maxHeartbeats 8000000 in
set_option maxRecDepth 100000 in
theorem signs_is (s : ByteArray) (w : World) (hs : s.size ≤ 1048576) :
    Calls Tryz.prog 51 #[.string s] w fun e w' => ∃ v, e = .returned v ∧ KT.Own w' w.heap.size v (Gl.toks (runesS s.data.toList)) ∧ (Gl.toks (runesS s.data.toList)).length ≤ 1048576 ∧ Below w.heap.size w w' := by
  have hRn := runes_is s w hs
  have hrl := (runesS_le s.data.toList).1
  rw [size_len] at hrl
  generalize runesS s.data.toList = r at *
  go_enter Tryz.func51, Tryz.ntmps51
  go_wp2_with (go_at_call 52; refine hRn.mono ?_; rintro e w2 ⟨v3, rfl, o3, b2⟩; clear hRn; obtain ⟨A, c, rfl, hc⟩ := o3.rd.form)
  have hR := o3.rd
  have hz2 := b2.size
  go_loopw [4, 5] (fun ov iv wr => ∃ (i : Nat) (l : List Gl.Tok), iv = .int .i64 i ∧ i ≤ r.length ∧ KT.Own wr w2.heap.size ov l ∧ l.length ≤ i ∧ Below w2.heap.size w2 wr ∧ Hid (Gl.toks r = l ++ Gl.toks (r.drop i))) (fun _ iv _ => r.length - (intOf iv).toNat)
  case atStart => exact ⟨0, [], rfl, by omega, Kd.Own.nil _ _, by simp, Below.refl _ _, hid (by simp)⟩
  case round =>
    obtain ⟨i, l, rfl, hi, hown, hli, hbw, HX⟩ := hrel
    have hwz := hbw.size
    by_cases hlt : i < r.length
    · obtain ⟨b, off, rfl, hb, c0⟩ := KI_at hR hlt
      rw [← hbw.cell (p := ⟨b, off + i, none⟩) hb] at c0
      obtain ⟨t1, t2, t3⟩ := Gl.toks_take r i l HX.out hlt
      have hnext : ∀ h : i + 1 < r.length, wr.cell? ⟨b, off + (i + 1), none⟩ = some (.int .i64 ((r[i + 1]'h : Nat) : Int)) := fun h => by
        obtain ⟨b', off', e, hb', c1⟩ := KI_at hR h
        injection e with e
        injection e with e1 e2
        subst e1 e2
        exact (hbw.cell (p := ⟨b, off + (i + 1), none⟩) hb').trans c1
      have hT1 : r[i] = 92 → ∀ h : i + 1 < r.length, Hid (Gl.toks r = (l ++ [.sg (.lit (r[i + 1]'h))]) ++ Gl.toks (r.drop (i + 2))) := fun a h => hid (t1 a h)
      have hT2 : r[i] = 124 → Hid (Gl.toks r = (l ++ [.bar]) ++ Gl.toks (r.drop (i + 1))) := fun a => hid (t2 a)
      have hT3 : r[i] ≠ 124 → (r[i] ≠ 92 ∨ ¬ i + 1 < r.length) → Hid (Gl.toks r = (l ++ [.sg (Gl.signOf r[i])]) ++ Gl.toks (r.drop (i + 1))) := fun a h => hid (t3 a h)
      clear t1 t2 t3 HX hR
      generalize r[i] = x at *
      have hcs : x = 42 ∨ x = 63 ∨ x = 124 ∨ (x = 92 ∧ i + 1 < r.length) ∨ (x = 92 ∧ ¬ i + 1 < r.length) ∨ (x ≠ 42 ∧ x ≠ 63 ∧ x ≠ 124 ∧ x ≠ 92) := by omega
      rcases hcs with rfl | rfl | rfl | ⟨rfl, h5⟩ | ⟨rfl, h5⟩ | ⟨h1, h2, h3, h4⟩
      · have H2 : Hid (Gl.toks r = (l ++ [.sg .any]) ++ Gl.toks (r.drop (i + 1))) := hT3 (by decide) (.inl (by decide))
        have c0' : wr.cell? ⟨b, off + i, none⟩ = some (.int .i64 42) := c0
        clear hT1 hT2 hT3 hnext c0
        go_wp2_with (at_builtin; refine Kd.wp_app1 (K := KT) rfl (.tmp 28) (.tmp 30) 92 rfl Tryz.underlying92 infoTok rfl w2.heap.size u4 l (.sg .any) rfl hown rfl rfl rfl (by unfold maxLen; omega) (by omega) hwz ?_; intro v4 w4 o4 b4 g4 _)
        go_roundw
        case rel => exact ⟨i + 1, _, by go_num, by omega, o4, by simp; omega, hbw.trans b4, H2⟩
        case measure => simp [intOf]; omega
      · have H2 : Hid (Gl.toks r = (l ++ [.sg .one]) ++ Gl.toks (r.drop (i + 1))) := hT3 (by decide) (.inl (by decide))
        have c0' : wr.cell? ⟨b, off + i, none⟩ = some (.int .i64 63) := c0
        clear hT1 hT2 hT3 hnext c0
        go_wp2_with (at_builtin; refine Kd.wp_app1 (K := KT) rfl (.tmp 38) (.tmp 40) 92 rfl Tryz.underlying92 infoTok rfl w2.heap.size u4 l (.sg .one) rfl hown rfl rfl rfl (by unfold maxLen; omega) (by omega) hwz ?_; intro v4 w4 o4 b4 g4 _)
        go_roundw
        case rel => exact ⟨i + 1, _, by go_num, by omega, o4, by simp; omega, hbw.trans b4, H2⟩
        case measure => simp [intOf]; omega
      · have H2 := hT2 rfl
        have c0' : wr.cell? ⟨b, off + i, none⟩ = some (.int .i64 124) := c0
        clear hT1 hT2 hT3 hnext c0
        go_wp2_with (at_builtin; refine Kd.wp_app1 (K := KT) rfl (.tmp 48) (.tmp 50) 92 rfl Tryz.underlying92 infoTok rfl w2.heap.size u4 l .bar rfl hown rfl rfl rfl (by unfold maxLen; omega) (by omega) hwz ?_; intro v4 w4 o4 b4 g4 _)
        go_roundw
        case rel => exact ⟨i + 1, _, by go_num, by omega, o4, by simp; omega, hbw.trans b4, H2⟩
        case measure => simp [intOf]; omega
      · have H2 := hT1 rfl h5
        have c1 := hnext h5
        have c0' : wr.cell? ⟨b, off + i, none⟩ = some (.int .i64 92) := c0
        have h5i : (i : Int) + 1 < r.length := by omega
        clear hT1 hT2 hT3 hnext c0
        generalize r[i + 1] = y at *
        go_wp2_with (at_builtin; refine Kd.wp_app1 (K := KT) rfl (.tmp 67) (.tmp 73) 92 rfl Tryz.underlying92 infoTok rfl w2.heap.size u4 l (.sg (.lit y)) rfl hown rfl rfl rfl (by unfold maxLen; omega) (by omega) hwz ?_; intro v4 w4 o4 b4 g4 _)
        go_roundw
        case rel => exact ⟨i + 2, _, by go_num, by omega, o4, by simp; omega, hbw.trans b4, H2⟩
        case measure => simp [intOf]; omega
      · have H2 : Hid (Gl.toks r = (l ++ [.sg (.lit 92)]) ++ Gl.toks (r.drop (i + 1))) := hT3 (by decide) (.inr h5)
        have c0' : wr.cell? ⟨b, off + i, none⟩ = some (.int .i64 92) := c0
        have h5i : ¬ (i : Int) + 1 < r.length := by omega
        clear hT1 hT2 hT3 hnext c0
        go_wp2_with (at_builtin; refine Kd.wp_app1 (K := KT) rfl (.tmp 14) (.tmp 20) 92 rfl Tryz.underlying92 infoTok rfl w2.heap.size u4 l (.sg (.lit 92)) rfl hown rfl rfl rfl (by unfold maxLen; omega) (by omega) hwz ?_; intro v4 w4 o4 b4 g4 _)
        go_roundw
        case rel => exact ⟨i + 1, _, by go_num, by omega, o4, by simp; omega, hbw.trans b4, H2⟩
        case measure => simp [intOf]; omega
      · have H2 : Hid (Gl.toks r = (l ++ [.sg (.lit x)]) ++ Gl.toks (r.drop (i + 1))) := by
          have := hT3 h3 (.inl h4)
          have e : Gl.signOf x = .lit x := by unfold Gl.signOf; rw [if_neg h1, if_neg h2]
          rw [e] at this
          exact this
        have k1 : ((x : Int) == 42) = false := by simp; omega
        have k2 : ((x : Int) == 63) = false := by simp; omega
        have k3 : ((x : Int) == 124) = false := by simp; omega
        have k4 : ((x : Int) == 92) = false := by simp; omega
        clear hT1 hT2 hT3 hnext
        go_wp2_with (at_builtin; refine Kd.wp_app1 (K := KT) rfl (.tmp 14) (.tmp 20) 92 rfl Tryz.underlying92 infoTok rfl w2.heap.size u4 l (.sg (.lit x)) rfl hown rfl rfl rfl (by unfold maxLen; omega) (by omega) hwz ?_; intro v4 w4 o4 b4 g4 _)
        go_roundw
        case rel => exact ⟨i + 1, _, by go_num, by omega, o4, by simp; omega, hbw.trans b4, H2⟩
        case measure => simp [intOf]; omega
    · have HE : Gl.toks r = l := by rw [HX.out, List.drop_eq_nil_of_le (by omega)]; show l ++ [] = l; simp
      have HE2 := hid HE
      clear HE HX
      go_wp2_with fail
      go_ret
      refine ⟨_, rfl, ?_, ?_, b2.trans (hbw.mono hz2)⟩
      · rw [HE2.out]; exact hown.mono hz2
      · rw [HE2.out]; omega
end Go.Proofs.YtlhodanpfpfodaaGreatDoor
