/-
  What the law's Own and the reference's Compare answer. Conditions: the lists can be read; sizes as each theorem names.
-/
import Derived.Test.YtjgkceciokhhpaaGreatDoorCmp
namespace Go.Proofs.YtjgkceciokhhpaaGreatDoor
open Go.RowKit Go.Icz

theorem Own_is (v : Value) (l : List Lab) (w : World) (hR : RdL w v l) (hlen : l.length * 32 ≤ 140737488355328) :
    Calls Tryz.prog 11 #[v] w fun e w' => ∃ v', e = .returned v' ∧ RdL w' v' l ∧ Below w.heap.size w w' := by
  have hR2 := fun o => hR.alloc o
  obtain ⟨A, c, rfl, hlc, hcell⟩ := hR
  clear hcell
  go_enter Tryz.func11, Tryz.ntmps11
  go_wp2_with (at_builtin; refine wp_appL rfl (.tmp 3) (.tmp 4) rfl w.heap.size _ _ [] l rfl (OwnL.made w (Nat.le_refl _)) rfl (hR2 _) (by simpa using hlen) (by simp) ?_; intro v' w1 hown hb hn)
  go_ret
  rw [List.nil_append] at hown
  exact ⟨v', rfl, hown.rd, below_alloc (Nat.le_refl _) hb⟩
theorem lab_cases (x y : Lab) : (Op.bytesLess x.1 y.1 = true ∧ cmpLab x y = -1) ∨ (Op.bytesLess x.1 y.1 = false ∧ (x.1 == y.1) = false ∧ cmpLab x y = 1) ∨
    (Op.bytesLess x.1 y.1 = false ∧ (x.1 == y.1) = true ∧ Op.bytesLess x.2 y.2 = true ∧ cmpLab x y = -1) ∨ (Op.bytesLess x.1 y.1 = false ∧ (x.1 == y.1) = true ∧ Op.bytesLess x.2 y.2 = false ∧ (x.2 == y.2) = false ∧ cmpLab x y = 1) ∨
    (Op.bytesLess x.1 y.1 = false ∧ (x.1 == y.1) = true ∧ Op.bytesLess x.2 y.2 = false ∧ (x.2 == y.2) = true ∧ cmpLab x y = 0) := by
  have B := bytesCmp
  simp only [less_iff, decide_eq_true_eq, decide_eq_false_iff_not, beq_iff_eq, beq_eq_false_iff_ne, ne_eq, ← B.eq, cmpLab, or2]
  rcases B.rng x.1 y.1 with h | h | h
  · rw [h]; simp
  · rw [h]
    rcases B.rng x.2 y.2 with g | g | g
    · rw [g]; simp
    · rw [g]; simp
    · rw [g]; simp
  · rw [h]; simp
set_option maxHeartbeats 4000000 in
set_option maxRecDepth 100000 in
theorem RefCompare_is (v1 v2 : Value) (l1 l2 : List Lab) (w : World) (h1 : RdL w v1 l1) (h2 : RdL w v2 l2) (hm1 : l1.length ≤ 4611686018427387904) (hm2 : l2.length ≤ 4611686018427387904) :
    Calls Tryz.prog 26 #[v1, v2] w fun e w' => e = .returned (.int .i64 (cmpL l1 l2)) ∧ Below w.heap.size w w' := by
  obtain ⟨A1, c1, rfl, hl1, hr1⟩ := h1
  obtain ⟨A2, c2, rfl, hl2, hr2⟩ := h2
  go_enter Tryz.func26, Tryz.ntmps26
  go_wp2
  go_loopw [5] (fun iv wr => ∃ i : Nat, iv = .int .i64 i ∧ i ≤ l1.length ∧ i ≤ l2.length ∧ Below w.heap.size w wr ∧ Hid (cmpL l1 l2 = cmpL (l1.drop i) (l2.drop i))) (fun iv _ => l1.length - (intOf iv).toNat)
  case atStart => exact ⟨0, rfl, by omega, by omega, Below.refl _ _, hid (by simp)⟩
  case round =>
    obtain ⟨i, rfl, hi1, hi2, hbw, HX⟩ := hrel
    by_cases hlt : i < l1.length
    · by_cases hlt2 : i < l2.length
      · obtain ⟨b1, o1, rfl, hb1, hc1⟩ := hr1 (by omega)
        obtain ⟨b2, o2, rfl, hb2, hc2⟩ := hr2 (by omega)
        have a0 := (hbw.cell (p := ⟨b1, o1 + i * 2, none⟩) hb1).trans (hc1 i hlt).1
        have a1 := (hbw.cell (p := ⟨b1, o1 + i * 2 + 1, none⟩) hb1).trans (hc1 i hlt).2
        have d0 := (hbw.cell (p := ⟨b2, o2 + i * 2, none⟩) hb2).trans (hc2 i hlt2).1
        have d1 := (hbw.cell (p := ⟨b2, o2 + i * 2 + 1, none⟩) hb2).trans (hc2 i hlt2).2
        have hd1 : l1.drop i = l1[i] :: l1.drop (i + 1) := List.drop_eq_getElem_cons hlt
        have hd2 : l2.drop i = l2[i] :: l2.drop (i + 1) := List.drop_eq_getElem_cons hlt2
        have HX2 : Hid (cmpL l1 l2 = or2 (cmpLab l1[i] l2[i]) (cmpL (l1.drop (i + 1)) (l2.drop (i + 1)))) := hid (by rw [HX.out, hd1, hd2]; rfl)
        have hcs := lab_cases l1[i] l2[i]
        clear hc1 hc2 hr1 hr2 hd1 hd2 HX
        generalize l1[i] = x at *
        generalize l2[i] = y at *
        obtain ⟨x1, x2⟩ := x
        obtain ⟨y1, y2⟩ := y
        simp only [] at a0 a1 d0 d1 hcs
        rcases hcs with ⟨e1, ec⟩ | ⟨e1, e2, ec⟩ | ⟨e1, e2, e3, ec⟩ | ⟨e1, e2, e3, e4, ec⟩ | ⟨e1, e2, e3, e4, ec⟩
        · rw [ec] at HX2
          clear ec
          go_wp2
          go_region
          go_wp2
          go_ret
          exact ⟨by rw [HX2.out]; rfl, hbw.drew⟩
        · rw [ec] at HX2
          clear ec
          go_wp2
          go_region
          go_wp2
          go_region
          go_wp2
          go_ret
          exact ⟨by rw [HX2.out]; rfl, hbw.drew.drew⟩
        · rw [ec] at HX2
          clear ec
          go_wp2
          go_region
          go_wp2
          go_region
          go_wp2
          go_region
          go_wp2
          go_ret
          exact ⟨by rw [HX2.out]; rfl, hbw.drew.drew.drew⟩
        · rw [ec] at HX2
          clear ec
          go_wp2
          go_region
          go_wp2
          go_region
          go_wp2
          go_region
          go_wp2
          go_region
          go_wp2
          go_ret
          exact ⟨by rw [HX2.out]; rfl, hbw.drew.drew.drew.drew⟩
        · rw [ec] at HX2
          clear ec
          go_wp2
          go_region
          go_wp2
          go_region
          go_wp2
          go_region
          go_wp2
          go_region
          go_wp2
          go_roundw
          case rel => exact ⟨i + 1, by go_num, by omega, by omega, hbw.drew.drew.drew.drew, HX2⟩
          case measure => simp [intOf]; omega
      · have HX3 : Hid (cmpL l1 l2 = 1) := hid (by rw [HX.out, List.drop_eq_getElem_cons hlt, List.drop_eq_nil_of_le (show l2.length ≤ i by omega)]; rfl)
        clear hr1 hr2 HX
        go_wp2
        go_ret
        exact ⟨by rw [HX3.out]; rfl, hbw⟩
    · by_cases hlt2 : i < l2.length
      · have HX3 : Hid (cmpL l1 l2 = -1) := hid (by rw [HX.out, List.drop_eq_nil_of_le (show l1.length ≤ i by omega), List.drop_eq_getElem_cons hlt2]; rfl)
        clear hr1 hr2 HX
        go_wp2
        go_ret
        exact ⟨by rw [HX3.out]; rfl, hbw⟩
      · have HX3 : Hid (cmpL l1 l2 = 0) := hid (by rw [HX.out, List.drop_eq_nil_of_le (show l1.length ≤ i by omega), List.drop_eq_nil_of_le (show l2.length ≤ i by omega)]; rfl)
        clear hr1 hr2 HX
        go_wp2
        go_ret
        exact ⟨by rw [HX3.out]; rfl, hbw⟩
end Go.Proofs.YtjgkceciokhhpaaGreatDoor
