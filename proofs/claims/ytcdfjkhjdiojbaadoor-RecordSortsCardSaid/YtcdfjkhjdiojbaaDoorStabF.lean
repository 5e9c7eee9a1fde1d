/-
  What slices.stableCmpFunc and slices.SortStableFunc do to a row of entries. Conditions: those that the theorems name.
-/
import Derived.Test.YtcdfjkhjdiojbaaDoorSymA
import Derived.Test.YtcdfjkhjdiojbaaDoorSlen
import Derived.Test.YtcdfjkhjdiojbaaDoorSblk
namespace Go.Proofs.YtcdfjkhjdiojbaaDoor
open Go.RowKit Go.Icz
/-- Two blocks, merged, make one. -/
theorem merge_blocks {k : Nat} {X XD D x1 x2 XR r1 r2 R M : List EV} (hX : X = XD ++ (x1 ++ (x2 ++ XR))) (hS : SBF ltE (2 * k) XD D) (h1 : x1.length = k) (h2 : x2.length = k) (s1 : StableOf ltE x1 r1) (s2 : StableOf ltE x2 r2) (hM : StableOf ltE (r1 ++ r2) M) :
    X = (XD ++ (x1 ++ x2)) ++ XR ∧ SBF ltE (2 * k) (XD ++ (x1 ++ x2)) (D ++ M) ∧ M.length = 2 * k := by
  have hp := StableOf.pieces s1 s2 hM
  have hl := StableOf.length ltE_ord hp
  rw [List.length_append] at hl
  exact ⟨by rw [hX]; simp only [List.append_assoc], SBF.snoc hS (by rw [List.length_append]; omega) (by omega) hp, by omega⟩
set_option maxHeartbeats 4000000 in
set_option maxRecDepth 100000 in
theorem stable_is (b cap N : Nat) (X : List EV) (w : World) (hN : X.length = N) (hR : RowE w b X) (hlen : N ≤ 1152921504606846976) :
    Calls Tryd.prog 50 #[.slice (some ⟨b, 0, none⟩) N cap, .int .i64 N, cmpF 28] w fun e w' => e = .returned (.tuple #[]) ∧ (∃ M, RowE w' b M ∧ StableOf ltE X M) ∧ w.grownBy w' (some b) := by
  have HN := hid hN
  clear hN
  unfold cmpF
  go_enter Tryd.func50, Tryd.ntmps50
  go_wp2_with fail
  go_loopw [7, 8] (fun av cv wr => ∃ (a c : Nat) (XD XR D : List EV), av = .int .i64 a ∧ cv = .int .i64 c ∧ a ≤ N ∧ Hid (c = a + 20) ∧ Hid (a = D.length) ∧ Hid (X = XD ++ XR) ∧ Hid (SBF ltE 20 XD D) ∧ RowE wr b (D ++ XR) ∧ w.grownBy wr (some b)) (fun av _ _ => N - (intOf av).toNat)
  case atStart => exact ⟨0, 20, [], X, [], rfl, rfl, by omega, hid rfl, hid rfl, hid rfl, hid SBF.nil, hR, World.grownBy.refl _ _⟩
  case round =>
    obtain ⟨a, c, XD, XR, D, rfl, rfl, haN, HC, HA, HX, HS, hr, hg⟩ := hrel
    have HXL : Hid (N = a + XR.length) := hid (by rw [← HN.out, HX.out, List.length_append, HA.out, HS.out.length])
    by_cases hcN : c ≤ N
    · have hcN' : (c : Int) ≤ (N : Int) := by omega
      have hins : ∀ w1, RowE w1 b (D ++ XR) → Calls Tryd.prog 72 #[.slice (some ⟨b, 0, none⟩) N cap, .int .i64 a, .int .i64 c, .func (.func 28) #[.agg #[]] #[]] w1 fun e w' => e = .returned (.tuple #[]) ∧ (∃ M, RowE w' b (D ++ M ++ XR.drop 20) ∧ StableOf ltE (XR.take 20) M) ∧ w1.grownBy w' (some b) := fun w1 h => by
        have h1 := HXL.out
        have h2 := HC.out
        exact insertion_is b cap N a c D (XR.take 20) (XR.drop 20) w1 (by rw [List.length_take, List.length_drop, ← HA.out]; omega) (by rw [List.append_assoc, List.take_append_drop]; exact h) HA.out (by rw [List.length_take]; omega) (by omega)
      have HFIN : Hid (∀ M, StableOf ltE (XR.take 20) M → c = (D ++ M).length ∧ X = (XD ++ XR.take 20) ++ XR.drop 20 ∧ SBF ltE 20 (XD ++ XR.take 20) (D ++ M)) := hid (fun M hM => by
        have h1 := HXL.out
        have h2 := HC.out
        have h3 := StableOf.length ltE_ord hM
        have h4 : (XR.take 20).length = 20 := by rw [List.length_take]; omega
        exact ⟨by rw [List.length_append, ← HA.out]; omega, by rw [List.append_assoc, List.take_append_drop]; exact HX.out, SBF.snoc HS.out h4 (by omega) hM⟩)
      have zc : IntKind.i64.wrap ((c : Int) + 20) = (c : Int) + 20 := by rw [IntKind.wrap_i64]; omega
      have hac : a < c := by have := HC.out; omega
      go_wp2_with (go_at_call 72; refine (hins _ hr).mono ?_; rintro e w2 ⟨rfl, ⟨M, r2, s2⟩, g2⟩; clear hins hr)
      go_roundw
      case rel => exact ⟨c, c + 20, XD ++ XR.take 20, XR.drop 20, D ++ M, rfl, by go_num, hcN, hid rfl, hid (HFIN.out M s2).1, hid (HFIN.out M s2).2.1, hid (HFIN.out M s2).2.2, r2, World.grownBy.trans hg g2⟩
      case measure => simp [intOf]; omega
    · have hcN' : ¬ (c : Int) ≤ (N : Int) := by omega
      have hins : ∀ w1, RowE w1 b (D ++ XR) → Calls Tryd.prog 72 #[.slice (some ⟨b, 0, none⟩) N cap, .int .i64 a, .int .i64 N, .func (.func 28) #[.agg #[]] #[]] w1 fun e w' => e = .returned (.tuple #[]) ∧ (∃ M, RowE w' b (D ++ M ++ []) ∧ StableOf ltE XR M) ∧ w1.grownBy w' (some b) := fun w1 h => by
        have h1 := HXL.out
        exact insertion_is b cap N a N D XR [] w1 (by rw [← HA.out]; simp; omega) (by rw [List.append_nil]; exact h) HA.out h1 (by omega)
      have HFIN : Hid (∀ M, StableOf ltE XR M → SB ltE 20 X (D ++ M)) := hid (fun M hM => by
        have h1 := HXL.out
        have h2 := HC.out
        rw [HX.out]
        exact SB.done HS.out hM (by omega) (StableOf.length ltE_ord hM))
      go_wp2_with (go_at_call 72; refine (hins _ hr).mono ?_; rintro e w2 ⟨rfl, ⟨M, r2, s2⟩, g2⟩; clear hins hr)
      have hg2 := World.grownBy.trans hg g2
      have hsb := hid (HFIN.out M s2)
      rw [List.append_nil] at r2
      generalize D ++ M = Y at *
      clear HC HA HX HS HXL HFIN hg g2 hcN hcN' s2
      generalize wr = wz at *
      go_loopw [6] (fun kv wr => ∃ (k : Nat) (Y : List EV), kv = .int .i64 k ∧ 20 ≤ k ∧ k ≤ 2 * N + 40 ∧ Hid (SB ltE k X Y) ∧ RowE wr b Y ∧ w.grownBy wr (some b)) (fun kv _ => (2 * N + 40) - (intOf kv).toNat)
      case atStart => exact ⟨20, Y, rfl, by omega, by omega, hsb, r2, hg2⟩
      case round =>
        obtain ⟨k, Y, rfl, hk20, hkN, HSB, hr, hg⟩ := hrel
        by_cases hkn : k < N
        · have hkn' : (k : Int) < (N : Int) := by omega
          have z2k : IntKind.i64.wrap (2 * (k : Int)) = 2 * (k : Int) := by rw [IntKind.wrap_i64]; omega
          go_wp2_with fail
          generalize wr = wo at *
          go_loopw [7, 8] (fun av cv wi => ∃ (a c : Nat) (XD XR D R : List EV), av = .int .i64 a ∧ cv = .int .i64 c ∧ a ≤ N ∧ Hid (c = a + 2 * k) ∧ c ≤ 4 * N + 80 ∧ Hid (a = D.length) ∧ Hid (X = XD ++ XR) ∧ Hid (SBF ltE (2 * k) XD D) ∧ Hid (SB ltE k XR R) ∧ RowE wi b (D ++ R) ∧ w.grownBy wi (some b)) (fun av _ _ => N - (intOf av).toNat)
          case atStart => exact ⟨0, 2 * k, [], X, [], Y, rfl, by go_num, by omega, hid (by omega), by omega, hid rfl, hid rfl, hid SBF.nil, HSB, hr, hg⟩
          case round =>
            obtain ⟨a, c, XD, XR, D, R, rfl, rfl, haN, HC, hc4, HA, HX, HS, HB, hr, hg⟩ := hrel
            have HXL : Hid (N = a + XR.length) := hid (by rw [← HN.out, HX.out, List.length_append, HA.out, HS.out.length])
            obtain ⟨m, hm⟩ : ∃ m, m = a + k := ⟨_, rfl⟩
            have HM := hid hm
            have zm : IntKind.i64.wrap ((a : Int) + (k : Int)) = (m : Int) := by rw [IntKind.wrap_i64]; omega
            have hmN : m ≤ 4 * N + 80 := by omega
            clear hm
            by_cases hcN : c ≤ N
            · have hcN' : (c : Int) ≤ (N : Int) := by omega
              obtain ⟨x1, r1, X1, R1, ex1, er1, l1, m1, s1, sb1⟩ := HB.out.peel (by have := HXL.out; have := HC.out; omega) (by omega)
              obtain ⟨x2, r2, X2, R2, ex2, er2, l2, m2, s2, sb2⟩ := sb1.peel (by have h1 := HXL.out; have h2 := HC.out; rw [ex1, List.length_append] at h1; omega) (by omega)
              have HE : Hid (D ++ R = D ++ r1 ++ r2 ++ R2) := hid (by rw [er1, er2]; simp only [List.append_assoc])
              have hsym : ∀ w1, RowE w1 b (D ++ R) → Calls Tryd.prog 73 #[.slice (some ⟨b, 0, none⟩) N cap, .int .i64 a, .int .i64 m, .int .i64 c, .func (.func 28) #[.agg #[]] #[]] w1 fun e w' => e = .returned (.tuple #[]) ∧ (∃ M, RowE w' b (D ++ M ++ R2) ∧ StableOf ltE (r1 ++ r2) M) ∧ w1.grownBy w' (some b) := fun w1 h => by
                have h1 := HXL.out
                have h2 := HC.out
                have h3 := sb2.length
                have h4 : XR.length = k + (k + X2.length) := by rw [ex1, ex2, List.length_append, List.length_append, l1, l2]
                exact symAll (2 * k) b cap N a m c D r1 r2 R2 w1 (by omega) (by rw [← HA.out]; omega) (by rw [← HE.out]; exact h) HA.out (by rw [HM.out]; omega) (by rw [HM.out]; omega) (by omega) (by omega) s1.1 s2.1 hlen
              have HFIN : Hid (∀ M, StableOf ltE (r1 ++ r2) M → c = (D ++ M).length ∧ X = (XD ++ (x1 ++ x2)) ++ X2 ∧ SBF ltE (2 * k) (XD ++ (x1 ++ x2)) (D ++ M)) := hid (fun M hM => by
                obtain ⟨q1, q2, q3⟩ := merge_blocks (X := X) (XR := X2) (R := R2) (by rw [HX.out, ex1, ex2]) HS.out l1 l2 s1 s2 hM
                exact ⟨by rw [List.length_append, ← HA.out, q3]; exact HC.out, q1, q2⟩)
              have HSB2 := hid sb2
              have hac : a < c := by have := HC.out; omega
              have zc : IntKind.i64.wrap ((c : Int) + 2 * (k : Int)) = (c : Int) + 2 * (k : Int) := by rw [IntKind.wrap_i64]; omega
              clear ex1 er1 l1 m1 s1 sb1 ex2 er2 l2 m2 s2 sb2 HE
              go_wp2_with (go_at_call 73; refine (hsym _ hr).mono ?_; rintro e w2 ⟨rfl, ⟨M, q2, s2⟩, g2⟩; clear hsym hr)
              go_roundw
              case rel => exact ⟨c, c + 2 * k, XD ++ (x1 ++ x2), X2, D ++ M, R2, rfl, by go_num, hcN, hid rfl, by omega, hid (HFIN.out M s2).1, hid (HFIN.out M s2).2.1, hid (HFIN.out M s2).2.2, HSB2, q2, World.grownBy.trans hg g2⟩
              case measure => simp [intOf]; omega
            · have hcN' : ¬ (c : Int) ≤ (N : Int) := by omega
              have z2 : IntKind.i64.wrap ((k : Int) * 2) = (k : Int) * 2 := by rw [IntKind.wrap_i64]; omega
              by_cases hmn : m < N
              · have hmn' : (m : Int) < (N : Int) := by omega
                obtain ⟨x1, r1, X1, R1, ex1, er1, l1, m1, s1, sb1⟩ := HB.out.peel (by have := HXL.out; have := HM.out; omega) (by omega)
                have hX1 : XR.length = k + X1.length := by rw [ex1, List.length_append, l1]
                have s2 := sb1.last (by have := HXL.out; have := HC.out; omega)
                have hl2 := sb1.length
                have HE : Hid (D ++ R = D ++ r1 ++ R1 ++ []) := hid (by rw [er1]; simp only [List.append_assoc, List.append_nil])
                have hsym : ∀ w1, RowE w1 b (D ++ R) → Calls Tryd.prog 73 #[.slice (some ⟨b, 0, none⟩) N cap, .int .i64 a, .int .i64 m, .int .i64 N, .func (.func 28) #[.agg #[]] #[]] w1 fun e w' => e = .returned (.tuple #[]) ∧ (∃ M, RowE w' b (D ++ M ++ []) ∧ StableOf ltE (r1 ++ R1) M) ∧ w1.grownBy w' (some b) := fun w1 h => by
                  have h1 := HXL.out
                  have h2 := HM.out
                  exact symAll (r1.length + R1.length) b cap N a m N D r1 R1 [] w1 (Nat.le_refl _) (by rw [← HA.out]; simp; omega) (by rw [← HE.out]; exact h) HA.out (by omega) (by omega) (by omega) (by omega) s1.1 s2.1 hlen
                have HFIN : Hid (∀ M, StableOf ltE (r1 ++ R1) M → SB ltE (k * 2) X (D ++ M)) := hid (fun M hM => by
                  have h1 := HXL.out
                  have h2 := HC.out
                  have hp := StableOf.pieces s1 s2 hM
                  rw [HX.out, ex1, Nat.mul_comm k 2]
                  exact SB.done HS.out hp (by rw [List.length_append]; omega) (StableOf.length ltE_ord hp))
                clear ex1 er1 l1 m1 s1 sb1 hX1 s2 hl2 HE
                go_wp2_with (go_at_call 73; refine (hsym _ hr).mono ?_; rintro e w2 ⟨rfl, ⟨M, q2, s2⟩, g2⟩; clear hsym hr)
                rw [List.append_nil] at q2
                go_roundw
                case rel => exact ⟨k * 2, D ++ M, by go_num, by omega, by omega, hid (HFIN.out M s2), q2, World.grownBy.trans hg g2⟩
                case measure => simp [intOf]; omega
              · have hmn' : ¬ (m : Int) < (N : Int) := by omega
                have HFIN : Hid (SB ltE (k * 2) X (D ++ R)) := hid (by
                  have h1 := HXL.out
                  have h2 := HM.out
                  have s2 := HB.out.last (by omega)
                  rw [HX.out, Nat.mul_comm k 2]
                  exact SB.done HS.out s2 (by omega) HB.out.length)
                go_wp2_with fail
                go_roundw
                case rel => exact ⟨k * 2, D ++ R, by go_num, by omega, by omega, HFIN, hr, hg⟩
                case measure => simp [intOf]; omega
        · have hkn' : ¬ (k : Int) < (N : Int) := by omega
          have HFIN : Hid (StableOf ltE X Y) := hid (HSB.out.last (by rw [HN.out]; omega))
          go_wp2_with fail
          go_end0
          exact ⟨rfl, ⟨Y, hr, HFIN.out⟩, hg⟩
end Go.Proofs.YtcdfjkhjdiojbaaDoor
