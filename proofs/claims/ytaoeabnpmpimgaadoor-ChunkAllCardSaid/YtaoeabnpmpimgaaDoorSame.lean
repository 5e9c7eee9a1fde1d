/-
  What the law's Own and Same of labels answer. Conditions: the lists can be read; sizes as each theorem names.
-/
import Derived.Test.YtaoeabnpmpimgaaDoorFacts
import Derived.Deep.RegionHeld3
namespace Go.Proofs.YtaoeabnpmpimgaaDoor
open Go.RowKit Go.Icz
theorem Same_is (v1 v2 : Value) (l1 l2 : List Lab) (w : World) (h1 : RdL w v1 l1) (h2 : RdL w v2 l2) (hm : l1.length ≤ 4611686018427387904) :
    Calls Tryd.prog 15 #[v1, v2] w fun e w' => e = .returned (.bool (decide (l1 = l2))) ∧ Below w.heap.size w w' := by
  obtain ⟨A1, c1, rfl, hl1, hr1⟩ := h1
  obtain ⟨A2, c2, rfl, hl2, hr2⟩ := h2
  by_cases hlen : l1.length = l2.length
  · have hL : (l1.length : Int) = (l2.length : Int) := by omega
    go_enter Tryd.func15, Tryd.ntmps15
    go_wp2
    go_loopw [5] (fun iv wr => ∃ i : Nat, iv = .int .i64 i ∧ i ≤ l1.length ∧ Below w.heap.size w wr ∧ Hid (l1.take i = l2.take i)) (fun iv _ => l1.length - (intOf iv).toNat)
    case atStart => exact ⟨0, rfl, by omega, Below.refl _ _, hid (by simp)⟩
    case round =>
      obtain ⟨i, rfl, hi, hbw, HT⟩ := hrel
      by_cases hlt : i < l1.length
      · obtain ⟨b1, o1, rfl, hb1, hc1⟩ := hr1 (by omega)
        obtain ⟨b2, o2, rfl, hb2, hc2⟩ := hr2 (by omega)
        have hlt2 : i < l2.length := by omega
        have a0 := (hbw.cell (p := ⟨b1, o1 + i * 2, none⟩) hb1).trans (hc1 i hlt).1
        have a1 := (hbw.cell (p := ⟨b1, o1 + i * 2 + 1, none⟩) hb1).trans (hc1 i hlt).2
        have d0 := (hbw.cell (p := ⟨b2, o2 + i * 2, none⟩) hb2).trans (hc2 i hlt2).1
        have d1 := (hbw.cell (p := ⟨b2, o2 + i * 2 + 1, none⟩) hb2).trans (hc2 i hlt2).2
        have ht1 : l1.take (i + 1) = l1.take i ++ [l1[i]] := by rw [List.take_append_getElem]
        have ht2 : l2.take (i + 1) = l2.take i ++ [l2[i]] := by rw [List.take_append_getElem]
        have hne : l1[i] ≠ l2[i] → ¬ l1 = l2 := fun h e => by subst e; exact h rfl
        have HN : Hid (l1[i] ≠ l2[i] → ¬ l1 = l2) := hid hne
        have H1 := hid ht1
        have H2 := hid ht2
        clear hc1 hc2 hr1 hr2 ht1 ht2 hne
        generalize l1[i] = x at *
        generalize l2[i] = y at *
        obtain ⟨x1, x2⟩ := x
        obtain ⟨y1, y2⟩ := y
        simp only [] at a0 a1 d0 d1
        by_cases e1 : x1 = y1
        · by_cases e2 : x2 = y2
          · subst e1 e2
            go_wp2
            go_region
            go_wp2
            go_roundw
            case rel => exact ⟨i + 1, by go_num, by omega, hbw.drew, hid (by rw [H1.out, H2.out, HT.out])⟩
            case measure => simp [intOf]; omega
          · have hb : (x2 == y2) = false := by simpa using e2
            have HF : Hid (¬ l1 = l2) := hid (HN.out (fun e => e2 (by injection e)))
            subst e1
            go_wp2
            go_region
            go_wp2
            go_ret
            exact ⟨by rw [decide_eq_false HF.out]; rfl, hbw.drew⟩
        · have hb : (x1 == y1) = false := by simpa using e1
          have HF : Hid (¬ l1 = l2) := hid (HN.out (fun e => e1 (by injection e)))
          go_wp2
          go_region
          go_wp2
          go_ret
          exact ⟨by rw [decide_eq_false HF.out]; rfl, hbw.drew⟩
      · have hT : l1 = l2 := by
          have e := HT.out
          rwa [List.take_of_length_le (by omega), List.take_of_length_le (by omega)] at e
        have HTT := hid hT
        clear hT
        go_wp2
        go_ret
        exact ⟨by rw [decide_eq_true HTT.out]; rfl, hbw⟩
  · have hF : ¬ l1 = l2 := fun e => hlen (by rw [e])
    have hb : ((l1.length : Int) == (l2.length : Int)) = false := by simp; omega
    have HF := hid hF
    clear hr1 hr2 hF
    go_enter Tryd.func15, Tryd.ntmps15
    go_wp2
    go_ret
    exact ⟨by rw [decide_eq_false HF.out]; rfl, Below.refl _ _⟩

theorem Own_own (v : Value) (l : List Lab) (w : World) (hR : RdL w v l) (hlen : l.length * 32 ≤ 140737488355328) :
    Calls Tryd.prog 34 #[v] w fun e w' => ∃ v', e = .returned v' ∧ OwnL w' w.heap.size v' l ∧ Below w.heap.size w w' := by
  have hR2 := fun o => hR.alloc o
  obtain ⟨A, c, rfl, hlc, hcell⟩ := hR
  clear hcell
  go_enter Tryd.func34, Tryd.ntmps34
  go_wp2_with (at_builtin; refine wp_appL rfl (.tmp 3) (.tmp 4) rfl w.heap.size _ _ [] l rfl (OwnL.made w (Nat.le_refl _)) rfl (hR2 _) (by simpa using hlen) (by simp) ?_; intro v' w1 hown hb hn)
  go_ret
  rw [List.nil_append] at hown
  exact ⟨v', rfl, hown, below_allocT (Nat.le_refl _) hb⟩
end Go.Proofs.YtaoeabnpmpimgaaDoor
