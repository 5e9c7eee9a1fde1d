/-
  What slices.rotateCmpFunc does to a row of entries. Conditions: those that the theorem names.
-/
import Derived.Test.YtcdfjkhjdiojbaaDoorSrow
namespace Go.Proofs.YtcdfjkhjdiojbaaDoor
open Go.RowKit Go.Icz
set_option maxHeartbeats 1000000 in
set_option maxRecDepth 100000 in
theorem rotate_is (b cap N a m c : Nat) (A X Y B : List EV) (f : Value) (w : World) (hN : (A ++ X ++ Y ++ B).length = N) (hR : RowE w b (A ++ X ++ Y ++ B)) (ha : a = A.length) (hm : m = A.length + X.length) (hc : c = m + Y.length) (hX : 0 < X.length) (hY : 0 < Y.length) (hlen : N ≤ 4611686018427387904) :
    Calls Tryd.prog 89 #[.slice (some ⟨b, 0, none⟩) N cap, .int .i64 a, .int .i64 m, .int .i64 c, f] w fun e w' => e = .returned (.tuple #[]) ∧ RowE w' b (A ++ Y ++ X ++ B) ∧ w.grownBy w' (some b) := by
  have hNl : A.length + X.length + Y.length + B.length = N := by rw [← hN]; simp only [List.length_append]
  have HNl := hid hNl
  have hcb : c ≤ N := by omega
  have hma : a ≤ m := by omega
  have hmc : m ≤ c := by omega
  have za : (m : Int) - (a : Int) = (X.length : Int) := by omega
  have zc : (c : Int) - (m : Int) = (Y.length : Int) := by omega
  have HM := hid hm
  clear hN hNl ha hm hc
  go_enter Tryd.func89, Tryd.ntmps89
  go_wp2
  go_loopw [10, 11] (fun iv jv wr => ∃ (i j : Nat) (P X' Y' S : List EV), iv = .int .i64 i ∧ jv = .int .i64 j ∧ i = X'.length ∧ j = Y'.length ∧ 0 < i ∧ 0 < j ∧ RowE wr b (A ++ P ++ X' ++ Y' ++ S ++ B) ∧ Hid (P ++ Y' ++ X' ++ S = Y ++ X) ∧ A.length + P.length + i = m ∧ m + j + S.length + B.length = N ∧ w.grownBy wr (some b)) (fun iv jv _ => (intOf iv).toNat + (intOf jv).toNat)
  case atStart => exact ⟨X.length, Y.length, [], X, Y, [], by go_num, by go_num, rfl, rfl, hX, hY, by simpa using hR, hid (by simp), by have := HM.out; simp; omega, by have := HM.out; have := HNl.out; simp; omega, World.grownBy.refl _ _⟩
  case round =>
    obtain ⟨i, j, P, X', Y', S, rfl, rfl, hi, hj, hi0, hj0, hr, HT, hpos, hend, hg⟩ := hrel
    have hb1 : i ≤ m := by omega
    have hb2 : m + j ≤ N := by omega
    have HI := hid hi
    have HJ := hid hj
    have HP := hid hpos
    have HE := hid hend
    clear za zc
    by_cases heq : i = j
    · have hne : ((i : Int) != (j : Int)) = false := by simp [heq]
      have e1 : ((A ++ P) ++ X' ++ ([] : List EV) ++ Y' ++ (S ++ B)).length = N := by simp only [List.length_append, List.length_nil]; omega
      have e2 : (((A ++ P).length : Nat) : Int) = (m : Int) - (i : Int) := by simp only [List.length_append]; omega
      have e3 : ((((A ++ P).length + X'.length + ([] : List EV).length) : Nat) : Int) = (m : Int) := by simp only [List.length_append, List.length_nil]; omega
      have SW := swapRange_is b cap (A ++ P).length ((A ++ P).length + X'.length + ([] : List EV).length) X'.length ((A ++ P) ++ X' ++ [] ++ Y' ++ (S ++ B)) f wr (by simpa only [List.append_assoc, List.nil_append] using hr) (by rw [e1]; simp only [List.length_append]; omega) (by rw [e1]; simp only [List.length_append, List.length_nil]; omega) (by omega) (by omega)
      rw [srl_all (A ++ P) X' [] Y' (S ++ B) (by omega), e1, e2, e3, ← hi] at SW
      have HL : Hid ((A ++ P) ++ Y' ++ [] ++ X' ++ (S ++ B) = A ++ Y ++ X ++ B) := hid (by
        have := HT.out
        simp only [List.append_assoc, List.nil_append] at this ⊢
        rw [← List.append_assoc Y X B, ← this]
        simp only [List.append_assoc])
      subst heq
      clear hr HT e1 e2 e3 hi hj hpos hend
      go_wp2_with (go_at_call 106; refine SW.mono ?_; rintro e w1 ⟨rfl, r1, g1⟩; clear SW)
      go_end0
      exact ⟨rfl, by rw [← HL.out]; exact r1, World.grownBy.trans hg g1⟩
    · have hne : ((i : Int) != (j : Int)) = true := by simp; omega
      by_cases hgt : j < i
      · have hgt' : (j : Int) < (i : Int) := by omega
        have hs : X' = X'.take j ++ X'.drop j := (List.take_append_drop j X').symm
        have l1 : (X'.take j).length = j := by simp; omega
        have l2 : (X'.drop j).length = i - j := by simp; omega
        generalize X'.take j = X1 at *
        generalize X'.drop j = X2 at *
        subst hs
        have e1 : ((A ++ P) ++ X1 ++ X2 ++ Y' ++ (S ++ B)).length = N := by simp only [List.length_append] at hi ⊢; omega
        have e2 : (((A ++ P).length : Nat) : Int) = (m : Int) - (i : Int) := by simp only [List.length_append]; omega
        have e3 : ((((A ++ P).length + X1.length + X2.length) : Nat) : Int) = (m : Int) := by simp only [List.length_append] at hi ⊢; omega
        have SW := swapRange_is b cap (A ++ P).length ((A ++ P).length + X1.length + X2.length) X1.length ((A ++ P) ++ X1 ++ X2 ++ Y' ++ (S ++ B)) f wr (by simpa only [List.append_assoc] using hr) (by rw [e1]; simp only [List.length_append]; omega) (by rw [e1]; simp only [List.length_append]; omega) (by omega) (by omega)
        rw [srl_all (A ++ P) X1 X2 Y' (S ++ B) (by omega), e1, e2, e3, l1] at SW
        have HT2 : Hid ((P ++ Y') ++ X1 ++ X2 ++ S = Y ++ X) := hid (by rw [← HT.out]; simp only [List.append_assoc])
        have L1 := hid l1
        have L2 := hid l2
        clear hr HT e1 e2 e3 hi hj hpos hend l1 l2
        have hil : i ≤ m + j := by omega
        go_wp2_with (go_at_call 106; refine SW.mono ?_; rintro e w1 ⟨rfl, r1, g1⟩; clear SW)
        go_roundw
        case rel =>
          have hi := HI.out
          have hj := HJ.out
          have hpos := HP.out
          have hend := HE.out
          have l1 := L1.out
          have l2 := L2.out
          exact ⟨i - j, j, P ++ Y', X2, X1, S, by go_num, rfl, by omega, by omega, by omega, by omega, by simpa only [List.append_assoc] using r1, HT2, by simp only [List.length_append]; omega, by omega, World.grownBy.trans hg g1⟩
        case measure => simp [intOf]; omega
      · have hgt' : ¬ (j : Int) < (i : Int) := by omega
        have hs : Y' = Y'.take (j - i) ++ Y'.drop (j - i) := (List.take_append_drop (j - i) Y').symm
        have l1 : (Y'.take (j - i)).length = j - i := by simp; omega
        have l2 : (Y'.drop (j - i)).length = i := by simp; omega
        generalize Y'.take (j - i) = Y1 at *
        generalize Y'.drop (j - i) = Y2 at *
        subst hs
        have e1 : ((A ++ P) ++ X' ++ Y1 ++ Y2 ++ (S ++ B)).length = N := by simp only [List.length_append] at hj ⊢; omega
        have e2 : (((A ++ P).length : Nat) : Int) = (m : Int) - (i : Int) := by simp only [List.length_append]; omega
        have e3 : ((((A ++ P).length + X'.length + Y1.length) : Nat) : Int) = (m : Int) + (j : Int) - (i : Int) := by simp only [List.length_append]; omega
        have SW := swapRange_is b cap (A ++ P).length ((A ++ P).length + X'.length + Y1.length) X'.length ((A ++ P) ++ X' ++ Y1 ++ Y2 ++ (S ++ B)) f wr (by simpa only [List.append_assoc] using hr) (by rw [e1]; simp only [List.length_append]; omega) (by rw [e1]; simp only [List.length_append]; omega) (by omega) (by omega)
        rw [srl_all (A ++ P) X' Y1 Y2 (S ++ B) (by omega), e1, e2, e3, ← hi] at SW
        have HT2 : Hid (P ++ Y1 ++ Y2 ++ (X' ++ S) = Y ++ X) := hid (by rw [← HT.out]; simp only [List.append_assoc])
        have L1 := hid l1
        have L2 := hid l2
        clear hr HT e1 e2 e3 hi hj hpos hend l1 l2
        have hil : i ≤ m + j := by omega
        go_wp2_with (go_at_call 106; refine SW.mono ?_; rintro e w1 ⟨rfl, r1, g1⟩; clear SW)
        go_roundw
        case rel =>
          have hi := HI.out
          have hj := HJ.out
          have hpos := HP.out
          have hend := HE.out
          have l1 := L1.out
          have l2 := L2.out
          exact ⟨i, j - i, P, Y2, Y1, X' ++ S, rfl, by go_num, by omega, by omega, by omega, by omega, by simpa only [List.append_assoc] using r1, HT2, by omega, by simp only [List.length_append]; omega, World.grownBy.trans hg g1⟩
        case measure => simp [intOf]; omega
end Go.Proofs.YtcdfjkhjdiojbaaDoor
