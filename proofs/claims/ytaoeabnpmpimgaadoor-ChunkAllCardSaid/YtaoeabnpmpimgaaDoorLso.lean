/-
  What slices.symMergeCmpFunc does to a row of entries where both lists have more than one element. Conditions: those that the theorem names.
  What slices.symMergeCmpFunc does to a row of entries. Conditions: those that SymAllN names.
  What slices.stableCmpFunc and slices.SortStableFunc do to a row of entries. Conditions: those that the theorems name.
  What record.Sort answers, as a row that may be written; slices.SortStableFunc by labels. Conditions: the entries can be read; sizes as the theorems name.
-/
import Derived.Test.YtaoeabnpmpimgaaDoorSblk
import Derived.Test.YtaoeabnpmpimgaaDoorLsm
import Derived.Test.YtaoeabnpmpimgaaDoorRefSrt
section
namespace Go.Proofs.YtaoeabnpmpimgaaDoor
open Go.RowKit Go.Icz
set_option maxHeartbeats 8000000 in
set_option maxRecDepth 100000 in
theorem symMerge_genN (n : Nat) (IH : SymAllN n) (b cap N a m c : Nat) (A L R B : List EV) (w : World) (hn : L.length + R.length ≤ n + 1) (hN : A.length + L.length + R.length + B.length = N) (hRow : RowN w b (A ++ L ++ R ++ B)) (ha : a = A.length) (hm : m = a + L.length) (hc : c = m + R.length) (hL : 2 ≤ L.length) (hR : 2 ≤ R.length) (hSL : SortedL ltEL L) (hSR : SortedL ltEL R) (hlen : N ≤ 1152921504606846976) :
    Calls Tryd.prog 68 #[.slice (some ⟨b, 0, none⟩) N cap, .int .i64 a, .int .i64 m, .int .i64 c, cmpG 23] w fun e w' => e = .returned (.tuple #[]) ∧ (∃ M, RowN w' b (A ++ M ++ B) ∧ StableOf ltEL (L ++ R) M) ∧ w.grownBy w' (some b) := by
  have HN := hid hN
  have HA := hid ha
  have HM := hid hm
  have HC := hid hc
  have HNN := hid hn
  have hcN : c ≤ N := by omega
  have ham : a + 2 ≤ m := by omega
  have hmc : m + 2 ≤ c := by omega
  have hma : ((m : Int) - (a : Int) == 1) = false := by simp; omega
  have hcm : ((c : Int) - (m : Int) == 1) = false := by simp; omega
  have HSL := hid hSL
  have HSR := hid hSR
  obtain ⟨mid, hmid⟩ : ∃ mid, mid = (a + c) / 2 := ⟨_, rfl⟩
  have HMID := hid hmid
  have zmid : ((a : Int) + (c : Int)) / 2 = (mid : Int) := by omega
  have hmid1 : a < mid := by omega
  have hmid2 : mid < c := by omega
  clear hN ha hm hc hn hL hR hmid
  unfold cmpG
  by_cases hbig : mid < m
  · have hbig' : (mid : Int) < (m : Int) := by omega
    obtain ⟨lo, hlo⟩ : ∃ lo, lo = mid + m - c - a := ⟨_, rfl⟩
    obtain ⟨hi, hhi⟩ : ∃ hi, hi = mid - a := ⟨_, rfl⟩
    have hlm : c ≤ mid + m - a := by have := HMID.out; omega
    have HHI : Hid (hi ≤ L.length) := hid (by have := HM.out; omega)
    have HLO : Hid (mid - a ≤ lo + R.length) := hid (by have := HC.out; omega)
    have HLO2 : Hid (mid + m ≤ N + a + lo) := hid (by omega)
    have hlh : lo ≤ hi := by have := HC.out; omega
    have HE1 : Hid (∀ u, u = lo → lo = 0 ∨ mid - a - lo = R.length) := hid (fun u _ => .inr (by have := HC.out; omega))
    have HE2 : Hid (∀ u, u = hi → hi = L.length ∨ hi = mid - a) := hid (fun u _ => .inr hhi)
    have hhm : hi ≤ mid - a := by omega
    have ZS : Hid ((mid : Int) + (m : Int) - (c : Int) = (a : Int) + (lo : Int)) := hid (by omega)
    have ZR : Hid ((mid : Int) = (a : Int) + (hi : Int)) := hid (by omega)
    go_enter Tryd.func68, Tryd.ntmps68
    go_wp2
    go_loopw [20, 21] (fun sv rv wr => ∃ (s r : Nat), sv = .int .i64 (s : Int) ∧ rv = .int .i64 (r : Int) ∧ a + lo ≤ s ∧ s ≤ r ∧ r ≤ a + hi ∧ Hid (∀ k x y, lo ≤ k → k < s - a → L[k]? = some x → R[mid - a - 1 - k]? = some y → ltEL y x = false) ∧ Hid (∀ k x y, r - a ≤ k → k < hi → L[k]? = some x → R[mid - a - 1 - k]? = some y → ltEL y x = true) ∧ RowN wr b (A ++ L ++ R ++ B) ∧ w.grownBy wr (some b)) (fun sv rv _ => (intOf rv).toNat - (intOf sv).toNat)
    case atStart => exact ⟨a + lo, a + hi, by go_num, by go_num, Nat.le_refl _, by omega, Nat.le_refl _, hid (fun k x y h1 h2 => by omega), hid (fun k x y h1 h2 => by omega), hRow, World.grownBy.refl _ _⟩
    case round =>
      obtain ⟨s, r, rfl, rfl, hs1, hsr, hr1, I1, I2, hr, hg⟩ := hrel
      by_cases hlt : s < r
      · have hlt' : (s : Int) < (r : Int) := by omega
        obtain ⟨h, hh⟩ : ∃ h, h = (s + r) / 2 := ⟨_, rfl⟩
        obtain ⟨q, hq⟩ : ∃ q, q = mid + m - 1 - h := ⟨_, rfl⟩
        have hsh : s ≤ h := by omega
        have hhr : h < r := by omega
        have hcA : a ≤ h := by omega
        have hcH : h < a + hi := by omega
        have hcm : h < mid := by omega
        have gL : L[h - a]? = some (L[h - a]'(by have := HHI.out; omega)) := List.getElem?_eq_getElem _
        have gR : R[mid - a - 1 - (h - a)]? = some (R[mid - a - 1 - (h - a)]'(by have := HLO.out; omega)) := List.getElem?_eq_getElem _
        generalize L[h - a]'_ = x at gL
        generalize R[mid - a - 1 - (h - a)]'_ = y at gR
        have gx : (A ++ L ++ R ++ B)[h]? = some x := by
          have h1 := HA.out
          have h2 := HHI.out
          rw [List.append_assoc, List.append_assoc, List.getElem?_append_right (by omega), List.getElem?_append_left (by omega), ← h1]
          exact gL
        have gy : (A ++ L ++ R ++ B)[q]? = some y := by
          have h1 := HA.out
          have h2 := HM.out
          have h3 := HLO.out
          rw [List.append_assoc, List.append_assoc, List.getElem?_append_right (by omega), List.getElem?_append_right (by omega), List.getElem?_append_left (by omega)]
          rw [show q - A.length - L.length = mid - a - 1 - (h - a) by omega]
          exact gR
        obtain ⟨x0, x1, x2, x3, -, -, -, -⟩ := hr.at gx
        have LBgx := hid (hr.lab gx)
        obtain ⟨y0, y1, y2, y3, -, -, -, -⟩ := hr.at gy
        have LBgy := hid (hr.lab gy)
        have hbz := hr.1.1
        have mkS : ∀ w', Below wr.heap.size wr w' → Below wr.heap.size wr w' ∧ w'.cell? ⟨b, h * 4, none⟩ = some (.int .i64 x.1.seq) ∧ w'.cell? ⟨b, h * 4 + 1, none⟩ = some (.int .i64 x.1.time) ∧ w'.cell? ⟨b, h * 4 + 2, none⟩ = some (.slice x.2.1 x.1.labs.length x.2.2) ∧ w'.cell? ⟨b, h * 4 + 3, none⟩ = some (.string ⟨x.1.line.toArray⟩) ∧ w'.cell? ⟨b, q * 4, none⟩ = some (.int .i64 y.1.seq) ∧ w'.cell? ⟨b, q * 4 + 1, none⟩ = some (.int .i64 y.1.time) ∧ w'.cell? ⟨b, q * 4 + 2, none⟩ = some (.slice y.2.1 y.1.labs.length y.2.2) ∧ w'.cell? ⟨b, q * 4 + 3, none⟩ = some (.string ⟨y.1.line.toArray⟩) := fun w' hh => ⟨hh, (hh.cell (p := ⟨b, h * 4, none⟩) hbz).trans x0, (hh.cell (p := ⟨b, h * 4 + 1, none⟩) hbz).trans x1, (hh.cell (p := ⟨b, h * 4 + 2, none⟩) hbz).trans x2, (hh.cell (p := ⟨b, h * 4 + 3, none⟩) hbz).trans x3, (hh.cell (p := ⟨b, q * 4, none⟩) hbz).trans y0, (hh.cell (p := ⟨b, q * 4 + 1, none⟩) hbz).trans y1, (hh.cell (p := ⟨b, q * 4 + 2, none⟩) hbz).trans y2, (hh.cell (p := ⟨b, q * 4 + 3, none⟩) hbz).trans y3⟩
        have hk := mkS wr.drew (Below.refl _ _).drew
        have HC2 := fun w1 (h9 : Below wr.heap.size wr w1) => cmp_callN (b := b) y x w1 (LabW.below LBgy.out h9) (LabW.below LBgx.out h9)
        have HRR := hid hr
        have hlz : Hid (ltEL y x = decide (cmpEL y.1 x.1 < 0)) := hid rfl
        have GL := hid gL
        have GR := hid gR
        clear x0 x1 x2 x3 y0 y1 y2 y3 gy gx hr gL gR
        generalize cmpEL y.1 x.1 = cv at *
        have hqN : q < N := by have := HLO2.out; omega
        have q0 : (0 : Int) ≤ (q : Int) := by omega
        have ql : (q : Int) < (N : Int) := by omega
        have hhN : h < N := by omega
        have hhN' : (h : Int) < (N : Int) := by omega
        obtain ⟨p, hp⟩ : ∃ p, p = mid + m - 1 := ⟨_, rfl⟩
        have HPP : Hid ((mid : Int) + (m : Int) - 1 = (p : Int)) := hid (by omega)
        have HH : Hid (((s : Int) + (r : Int)) / 2 = (h : Int)) := hid (by omega)
        have zq : (p : Int) - (h : Int) = (q : Int) := by omega
        have zqw : IntKind.i64.wrap ((p : Int) - (h : Int)) = (q : Int) := by rw [zq, IntKind.wrap_i64]; omega
        have zqw2 : IntKind.i64.wrap (q : Int) = (q : Int) := by rw [IntKind.wrap_i64]; omega
        have HQ := hid hq
        have HHH := hid hh
        clear hq hp hh
        by_cases hcv : cv < 0
        · have HZ : Hid (ltEL y x = true) := hid (by rw [hlz.out]; exact decide_eq_true hcv)
          have hcd : decide (cv < 0) = true := decide_eq_true hcv
          go_wp2_with fail
          rw [HPP.out, HH.out]
          go_region_held3 (fun w' => Below wr.heap.size wr w' ∧ w'.cell? ⟨b, h * 4, none⟩ = some (.int .i64 x.1.seq) ∧ w'.cell? ⟨b, h * 4 + 1, none⟩ = some (.int .i64 x.1.time) ∧ w'.cell? ⟨b, h * 4 + 2, none⟩ = some (.slice x.2.1 x.1.labs.length x.2.2) ∧ w'.cell? ⟨b, h * 4 + 3, none⟩ = some (.string ⟨x.1.line.toArray⟩) ∧ w'.cell? ⟨b, q * 4, none⟩ = some (.int .i64 y.1.seq) ∧ w'.cell? ⟨b, q * 4 + 1, none⟩ = some (.int .i64 y.1.time) ∧ w'.cell? ⟨b, q * 4 + 2, none⟩ = some (.slice y.2.1 y.1.labs.length y.2.2) ∧ w'.cell? ⟨b, q * 4 + 3, none⟩ = some (.string ⟨y.1.line.toArray⟩)) (exact hk)
            (first | (go_at_call 23; refine (HC2 _ hk.1).mono ?_; rintro e w1 ⟨rfl, b1⟩; have hk := mkS _ (hk.1.trans (b1.mono hk.1.size))))
          have hw1 := hk.1
          clear hk mkS
          go_wp2_with fail
          rw [← HPP.out]
          go_roundw
          case rel => exact ⟨s, h, rfl, by go_num, hs1, by omega, by omega, I1, hid (fun k x' y' h1 h2 => cut_yesN HSL.out HSR.out GL.out GR.out HZ.out k x' y' h1), HRR.out.below hw1, World.grownBy.trans hg (below_grown hw1 _)⟩
          case measure => simp [intOf]; omega
        · have HZ : Hid (ltEL y x = false) := hid (by rw [hlz.out]; exact decide_eq_false hcv)
          have hcd : decide (cv < 0) = false := decide_eq_false hcv
          go_wp2_with fail
          rw [HPP.out, HH.out]
          go_region_held3 (fun w' => Below wr.heap.size wr w' ∧ w'.cell? ⟨b, h * 4, none⟩ = some (.int .i64 x.1.seq) ∧ w'.cell? ⟨b, h * 4 + 1, none⟩ = some (.int .i64 x.1.time) ∧ w'.cell? ⟨b, h * 4 + 2, none⟩ = some (.slice x.2.1 x.1.labs.length x.2.2) ∧ w'.cell? ⟨b, h * 4 + 3, none⟩ = some (.string ⟨x.1.line.toArray⟩) ∧ w'.cell? ⟨b, q * 4, none⟩ = some (.int .i64 y.1.seq) ∧ w'.cell? ⟨b, q * 4 + 1, none⟩ = some (.int .i64 y.1.time) ∧ w'.cell? ⟨b, q * 4 + 2, none⟩ = some (.slice y.2.1 y.1.labs.length y.2.2) ∧ w'.cell? ⟨b, q * 4 + 3, none⟩ = some (.string ⟨y.1.line.toArray⟩)) (exact hk)
            (first | (go_at_call 23; refine (HC2 _ hk.1).mono ?_; rintro e w1 ⟨rfl, b1⟩; have hk := mkS _ (hk.1.trans (b1.mono hk.1.size))))
          have hw1 := hk.1
          clear hk mkS
          go_wp2_with fail
          rw [← HPP.out]
          go_roundw
          case rel => exact ⟨h + 1, r, by go_num, rfl, by omega, by omega, hr1, hid (fun k x' y' h1 h2 => cut_noN HSL.out HSR.out GL.out GR.out HZ.out (by omega) k x' y' (by omega)), I2, HRR.out.below hw1, World.grownBy.trans hg (below_grown hw1 _)⟩
          case measure => simp [intOf]; omega
      · have hse : r = s := by omega
        subst hse
        obtain ⟨e, he⟩ : ∃ e, e = mid + m - r := ⟨_, rfl⟩
        have ze : (mid : Int) + (m : Int) - (r : Int) = (e : Int) := by omega
        have zew : IntKind.i64.wrap (e : Int) = (e : Int) := by rw [IntKind.wrap_i64]; omega
        have hme : m ≤ e := by omega
        have hec : e ≤ c := by have := HC.out; omega
        have hrm : r ≤ m := by have := HHI.out; have := HM.out; omega
        have hra : a ≤ r := by omega
        have hrmid : r ≤ mid := by omega
        have hcut := cut_halvesN HSL.out HSR.out (h := mid - a) (u := r - a) (lo := lo) (hi := hi) (by omega) (by omega) HHI.out (by omega) HLO.out (HE1.out (r - a)) (HE2.out (r - a)) I1.out I2.out
        have HLL : Hid (L = L.take (r - a) ++ L.drop (r - a)) := hid (List.take_append_drop _ _).symm
        have HRR : Hid (R = R.take (mid - a - (r - a)) ++ R.drop (mid - a - (r - a))) := hid (List.take_append_drop _ _).symm
        have HLEN : Hid ((L.take (r - a)).length = r - a ∧ (L.drop (r - a)).length = m - r ∧ (R.take (mid - a - (r - a))).length = e - m ∧ (R.drop (mid - a - (r - a))).length = c - e) := hid (by
          have h1 := HM.out
          have h2 := HC.out
          have h3 := HHI.out
          have h4 := HLO.out
          simp only [List.length_take, List.length_drop]
          omega)
        generalize L.take (r - a) = L1 at *
        generalize L.drop (r - a) = L2 at *
        generalize R.take (mid - a - (r - a)) = R1 at *
        generalize R.drop (mid - a - (r - a)) = R2 at *
        have HCUT := hid hcut
        have HE := hid he
        have hS4 : Hid (SortedL ltEL L1 ∧ SortedL ltEL L2 ∧ SortedL ltEL R1 ∧ SortedL ltEL R2) := hid (by
          have h1 := HSL.out
          have h2 := HSR.out
          rw [HLL.out] at h1
          rw [HRR.out] at h2
          exact ⟨(SortedL.append_iff.1 h1).1, (SortedL.append_iff.1 h1).2.1, (SortedL.append_iff.1 h2).1, (SortedL.append_iff.1 h2).2.1⟩)
        have hROT : ∀ w1, RowN w1 b (A ++ L ++ R ++ B) → r < m → m < e → Calls Tryd.prog 82 #[.slice (some ⟨b, 0, none⟩) N cap, .int .i64 r, .int .i64 m, .int .i64 e, cmpG 23] w1 fun q w' => q = .returned (.tuple #[]) ∧ RowN w' b (A ++ L1 ++ R1 ++ (L2 ++ R2 ++ B)) ∧ w1.grownBy w' (some b) := fun w1 hw h1 h2 => by
          obtain ⟨g1, g2, g3, g4⟩ := HLEN.out
          have g5 := HA.out
          have g6 := HN.out
          have ee : A ++ L ++ R ++ B = (A ++ L1) ++ L2 ++ R1 ++ (R2 ++ B) := by rw [HLL.out, HRR.out]; simp only [List.append_assoc]
          have e2 : A ++ L1 ++ R1 ++ (L2 ++ R2 ++ B) = (A ++ L1) ++ R1 ++ L2 ++ (R2 ++ B) := by simp only [List.append_assoc]
          rw [e2]
          exact rotate_isN b cap N r m e (A ++ L1) L2 R1 (R2 ++ B) _ w1 (by rw [← ee]; simp only [List.length_append]; omega) (ee ▸ hw) (by rw [List.length_append]; omega) (by rw [List.length_append]; omega) (by omega) (by omega) (by omega) (by omega)
        have hNOT : ∀ w1, RowN w1 b (A ++ L ++ R ++ B) → ¬ (r < m ∧ m < e) → RowN w1 b (A ++ L1 ++ R1 ++ (L2 ++ R2 ++ B)) := fun w1 hw h1 => by
          obtain ⟨g1, g2, g3, g4⟩ := HLEN.out
          rw [HLL.out, HRR.out] at hw
          have h2 : L2 = [] ∨ R1 = [] := by
            rcases Nat.lt_or_ge r m with h | h
            · exact .inr (List.length_eq_zero_iff.1 (by omega))
            · exact .inl (List.length_eq_zero_iff.1 (by omega))
          rcases h2 with rfl | rfl <;> simpa only [List.append_assoc, List.append_nil, List.nil_append] using hw
        have hM1 : ∀ w1, RowN w1 b (A ++ L1 ++ R1 ++ (L2 ++ R2 ++ B)) → a < r → r < mid → Calls Tryd.prog 68 #[.slice (some ⟨b, 0, none⟩) N cap, .int .i64 a, .int .i64 r, .int .i64 mid, cmpG 23] w1 fun q w' => q = .returned (.tuple #[]) ∧ (∃ M, RowN w' b (A ++ M ++ (L2 ++ R2 ++ B)) ∧ StableOf ltEL (L1 ++ R1) M) ∧ w1.grownBy w' (some b) := fun w1 hw h1 h2 => by
          obtain ⟨g1, g2, g3, g4⟩ := HLEN.out
          have g5 := HA.out
          have g6 := HN.out
          have g7 := HNN.out
          have g8 := HM.out
          have g9 := HC.out
          have g10 := HE.out
          exact IH b cap N a r mid A L1 R1 (L2 ++ R2 ++ B) w1 (by omega) (by simp only [List.length_append]; omega) hw g5 (by omega) (by omega) (by omega) (by omega) hS4.out.1 hS4.out.2.2.1 hlen
        have hN1 : ∀ w1, RowN w1 b (A ++ L1 ++ R1 ++ (L2 ++ R2 ++ B)) → ¬ (a < r ∧ r < mid) → ∃ M, RowN w1 b (A ++ M ++ (L2 ++ R2 ++ B)) ∧ StableOf ltEL (L1 ++ R1) M := fun w1 hw h1 => by
          obtain ⟨g1, g2, g3, g4⟩ := HLEN.out
          have g10 := HE.out
          refine ⟨L1 ++ R1, by simpa only [List.append_assoc] using hw, StableOf.refl ?_⟩
          have h2 : L1 = [] ∨ R1 = [] := by
            rcases Nat.lt_or_ge a r with h | h
            · exact .inr (List.length_eq_zero_iff.1 (by omega))
            · exact .inl (List.length_eq_zero_iff.1 (by omega))
          rcases h2 with rfl | rfl
          · exact hS4.out.2.2.1
          · rw [List.append_nil]; exact hS4.out.1
        have hM2 : ∀ w1 M, RowN w1 b (A ++ M ++ (L2 ++ R2 ++ B)) → StableOf ltEL (L1 ++ R1) M → mid < e → e < c → Calls Tryd.prog 68 #[.slice (some ⟨b, 0, none⟩) N cap, .int .i64 mid, .int .i64 e, .int .i64 c, cmpG 23] w1 fun q w' => q = .returned (.tuple #[]) ∧ (∃ M, RowN w' b (A ++ M ++ B) ∧ StableOf ltEL (L ++ R) M) ∧ w1.grownBy w' (some b) := fun w1 M hw hM h1 h2 => by
          obtain ⟨g1, g2, g3, g4⟩ := HLEN.out
          have g5 := HA.out
          have g6 := HN.out
          have g7 := HNN.out
          have g8 := HM.out
          have g9 := HC.out
          have g10 := HE.out
          have g11 := StableOf.length ltEL_ord hM
          rw [List.length_append] at g11
          have e2 : A ++ M ++ (L2 ++ R2 ++ B) = (A ++ M) ++ L2 ++ R2 ++ B := by simp only [List.append_assoc]
          refine (IH b cap N mid e c (A ++ M) L2 R2 B w1 (by omega) (by simp only [List.length_append]; omega) (e2 ▸ hw) (by rw [List.length_append]; omega) (by omega) (by omega) (by omega) (by omega) hS4.out.2.1 hS4.out.2.2.2 hlen).mono ?_
          rintro q w' ⟨rfl, ⟨M2, k1, k2⟩, k3⟩
          have s1 := HSL.out
          have s2 := HSR.out
          rw [HLL.out] at s1
          rw [HRR.out] at s2
          refine ⟨rfl, ⟨M ++ M2, by simpa only [List.append_assoc] using k1, ?_⟩, k3⟩
          rw [HLL.out, HRR.out]
          exact StableOf.halves ltEL_ord s1 s2 HCUT.out.1 HCUT.out.2 hM k2
        have hN2 : ∀ w1 M, RowN w1 b (A ++ M ++ (L2 ++ R2 ++ B)) → StableOf ltEL (L1 ++ R1) M → ¬ (mid < e ∧ e < c) → ∃ M, RowN w1 b (A ++ M ++ B) ∧ StableOf ltEL (L ++ R) M := fun w1 M hw hM h1 => by
          obtain ⟨g1, g2, g3, g4⟩ := HLEN.out
          have g10 := HE.out
          have s1 := HSL.out
          have s2 := HSR.out
          rw [HLL.out] at s1
          rw [HRR.out] at s2
          refine ⟨M ++ (L2 ++ R2), by simpa only [List.append_assoc] using hw, ?_⟩
          rw [HLL.out, HRR.out]
          refine StableOf.halves ltEL_ord s1 s2 HCUT.out.1 HCUT.out.2 hM (StableOf.refl ?_)
          have h2 : L2 = [] ∨ R2 = [] := by
            rcases Nat.lt_or_ge e c with h | h
            · exact .inl (List.length_eq_zero_iff.1 (by omega))
            · exact .inr (List.length_eq_zero_iff.1 (by omega))
          rcases h2 with rfl | rfl
          · exact hS4.out.2.2.2
          · rw [List.append_nil]; exact hS4.out.2.1
        clear he hcut
        by_cases k1 : r < m
        · have k1' : (r : Int) < (m : Int) := by omega
          by_cases j1 : m < e
          · have j1' : (m : Int) < (e : Int) := by omega
            by_cases k2 : a < r
            · have k2' : (a : Int) < (r : Int) := by omega
              by_cases j2 : r < mid
              · have j2' : (r : Int) < (mid : Int) := by omega
                by_cases k3 : mid < e
                · have k3' : (mid : Int) < (e : Int) := by omega
                  by_cases j3 : e < c
                  · have j3' : (e : Int) < (c : Int) := by omega
                    have g0 := hg
                    go_wp2_with (first | (go_at_call 82; refine (hROT _ hr k1 j1).mono ?_; rintro q w1 ⟨rfl, r1, h1⟩; have g0 := World.grownBy.trans g0 h1; clear h1 hr) | (go_at_call 68; refine (hM1 _ r1 k2 j2).mono ?_; rintro q w2 ⟨rfl, ⟨M, r2, s2⟩, h2⟩; have g0 := World.grownBy.trans g0 h2; clear h2 r1) | (go_at_call 68; refine (hM2 _ M r2 s2 k3 j3).mono ?_; rintro q w3 ⟨rfl, r3, h3⟩; have g0 := World.grownBy.trans g0 h3; clear h3 r2))
                    first | refine bodyPost_end (results_none rfl _ _ _) rfl ?_ | refine bodyPost_ret (results_none rfl _ _ _) rfl ?_
                    exact ⟨rfl, by simpa only [List.append_assoc] using r3, g0⟩
                  · have j3' : ¬ (e : Int) < (c : Int) := by omega
                    have g0 := hg
                    go_wp2_with (first | (go_at_call 82; refine (hROT _ hr k1 j1).mono ?_; rintro q w1 ⟨rfl, r1, h1⟩; have g0 := World.grownBy.trans g0 h1; clear h1 hr) | (go_at_call 68; refine (hM1 _ r1 k2 j2).mono ?_; rintro q w2 ⟨rfl, ⟨M, r2, s2⟩, h2⟩; have g0 := World.grownBy.trans g0 h2; clear h2 r1; have r3 := hN2 _ M r2 s2 (by omega)))
                    first | refine bodyPost_end (results_none rfl _ _ _) rfl ?_ | refine bodyPost_ret (results_none rfl _ _ _) rfl ?_
                    exact ⟨rfl, by simpa only [List.append_assoc] using r3, g0⟩
                · have k3' : ¬ (mid : Int) < (e : Int) := by omega
                  have g0 := hg
                  go_wp2_with (first | (go_at_call 82; refine (hROT _ hr k1 j1).mono ?_; rintro q w1 ⟨rfl, r1, h1⟩; have g0 := World.grownBy.trans g0 h1; clear h1 hr) | (go_at_call 68; refine (hM1 _ r1 k2 j2).mono ?_; rintro q w2 ⟨rfl, ⟨M, r2, s2⟩, h2⟩; have g0 := World.grownBy.trans g0 h2; clear h2 r1; have r3 := hN2 _ M r2 s2 (by omega)))
                  first | refine bodyPost_end (results_none rfl _ _ _) rfl ?_ | refine bodyPost_ret (results_none rfl _ _ _) rfl ?_
                  exact ⟨rfl, by simpa only [List.append_assoc] using r3, g0⟩
              · have j2' : ¬ (r : Int) < (mid : Int) := by omega
                by_cases k3 : mid < e
                · have k3' : (mid : Int) < (e : Int) := by omega
                  by_cases j3 : e < c
                  · have j3' : (e : Int) < (c : Int) := by omega
                    have g0 := hg
                    go_wp2_with (first | (go_at_call 82; refine (hROT _ hr k1 j1).mono ?_; rintro q w1 ⟨rfl, r1, h1⟩; have g0 := World.grownBy.trans g0 h1; clear h1 hr; obtain ⟨M, r2, s2⟩ := hN1 _ r1 (by omega); clear r1) | (go_at_call 68; refine (hM2 _ M r2 s2 k3 j3).mono ?_; rintro q w3 ⟨rfl, r3, h3⟩; have g0 := World.grownBy.trans g0 h3; clear h3 r2))
                    first | refine bodyPost_end (results_none rfl _ _ _) rfl ?_ | refine bodyPost_ret (results_none rfl _ _ _) rfl ?_
                    exact ⟨rfl, by simpa only [List.append_assoc] using r3, g0⟩
                  · have j3' : ¬ (e : Int) < (c : Int) := by omega
                    have g0 := hg
                    go_wp2_with (first | (go_at_call 82; refine (hROT _ hr k1 j1).mono ?_; rintro q w1 ⟨rfl, r1, h1⟩; have g0 := World.grownBy.trans g0 h1; clear h1 hr; obtain ⟨M, r2, s2⟩ := hN1 _ r1 (by omega); clear r1; have r3 := hN2 _ M r2 s2 (by omega)))
                    first | refine bodyPost_end (results_none rfl _ _ _) rfl ?_ | refine bodyPost_ret (results_none rfl _ _ _) rfl ?_
                    exact ⟨rfl, by simpa only [List.append_assoc] using r3, g0⟩
                · have k3' : ¬ (mid : Int) < (e : Int) := by omega
                  have g0 := hg
                  go_wp2_with (first | (go_at_call 82; refine (hROT _ hr k1 j1).mono ?_; rintro q w1 ⟨rfl, r1, h1⟩; have g0 := World.grownBy.trans g0 h1; clear h1 hr; obtain ⟨M, r2, s2⟩ := hN1 _ r1 (by omega); clear r1; have r3 := hN2 _ M r2 s2 (by omega)))
                  first | refine bodyPost_end (results_none rfl _ _ _) rfl ?_ | refine bodyPost_ret (results_none rfl _ _ _) rfl ?_
                  exact ⟨rfl, by simpa only [List.append_assoc] using r3, g0⟩
            · have k2' : ¬ (a : Int) < (r : Int) := by omega
              by_cases k3 : mid < e
              · have k3' : (mid : Int) < (e : Int) := by omega
                by_cases j3 : e < c
                · have j3' : (e : Int) < (c : Int) := by omega
                  have g0 := hg
                  go_wp2_with (first | (go_at_call 82; refine (hROT _ hr k1 j1).mono ?_; rintro q w1 ⟨rfl, r1, h1⟩; have g0 := World.grownBy.trans g0 h1; clear h1 hr; obtain ⟨M, r2, s2⟩ := hN1 _ r1 (by omega); clear r1) | (go_at_call 68; refine (hM2 _ M r2 s2 k3 j3).mono ?_; rintro q w3 ⟨rfl, r3, h3⟩; have g0 := World.grownBy.trans g0 h3; clear h3 r2))
                  first | refine bodyPost_end (results_none rfl _ _ _) rfl ?_ | refine bodyPost_ret (results_none rfl _ _ _) rfl ?_
                  exact ⟨rfl, by simpa only [List.append_assoc] using r3, g0⟩
                · have j3' : ¬ (e : Int) < (c : Int) := by omega
                  have g0 := hg
                  go_wp2_with (first | (go_at_call 82; refine (hROT _ hr k1 j1).mono ?_; rintro q w1 ⟨rfl, r1, h1⟩; have g0 := World.grownBy.trans g0 h1; clear h1 hr; obtain ⟨M, r2, s2⟩ := hN1 _ r1 (by omega); clear r1; have r3 := hN2 _ M r2 s2 (by omega)))
                  first | refine bodyPost_end (results_none rfl _ _ _) rfl ?_ | refine bodyPost_ret (results_none rfl _ _ _) rfl ?_
                  exact ⟨rfl, by simpa only [List.append_assoc] using r3, g0⟩
              · have k3' : ¬ (mid : Int) < (e : Int) := by omega
                have g0 := hg
                go_wp2_with (first | (go_at_call 82; refine (hROT _ hr k1 j1).mono ?_; rintro q w1 ⟨rfl, r1, h1⟩; have g0 := World.grownBy.trans g0 h1; clear h1 hr; obtain ⟨M, r2, s2⟩ := hN1 _ r1 (by omega); clear r1; have r3 := hN2 _ M r2 s2 (by omega)))
                first | refine bodyPost_end (results_none rfl _ _ _) rfl ?_ | refine bodyPost_ret (results_none rfl _ _ _) rfl ?_
                exact ⟨rfl, by simpa only [List.append_assoc] using r3, g0⟩
          · have j1' : ¬ (m : Int) < (e : Int) := by omega
            by_cases k2 : a < r
            · have k2' : (a : Int) < (r : Int) := by omega
              by_cases j2 : r < mid
              · have j2' : (r : Int) < (mid : Int) := by omega
                by_cases k3 : mid < e
                · have k3' : (mid : Int) < (e : Int) := by omega
                  by_cases j3 : e < c
                  · have j3' : (e : Int) < (c : Int) := by omega
                    have g0 := hg
                    have r1 := hNOT _ hr (by omega)
                    clear hr
                    go_wp2_with (first | (go_at_call 68; refine (hM1 _ r1 k2 j2).mono ?_; rintro q w2 ⟨rfl, ⟨M, r2, s2⟩, h2⟩; have g0 := World.grownBy.trans g0 h2; clear h2 r1) | (go_at_call 68; refine (hM2 _ M r2 s2 k3 j3).mono ?_; rintro q w3 ⟨rfl, r3, h3⟩; have g0 := World.grownBy.trans g0 h3; clear h3 r2))
                    first | refine bodyPost_end (results_none rfl _ _ _) rfl ?_ | refine bodyPost_ret (results_none rfl _ _ _) rfl ?_
                    exact ⟨rfl, by simpa only [List.append_assoc] using r3, g0⟩
                  · have j3' : ¬ (e : Int) < (c : Int) := by omega
                    have g0 := hg
                    have r1 := hNOT _ hr (by omega)
                    clear hr
                    go_wp2_with (first | (go_at_call 68; refine (hM1 _ r1 k2 j2).mono ?_; rintro q w2 ⟨rfl, ⟨M, r2, s2⟩, h2⟩; have g0 := World.grownBy.trans g0 h2; clear h2 r1; have r3 := hN2 _ M r2 s2 (by omega)))
                    first | refine bodyPost_end (results_none rfl _ _ _) rfl ?_ | refine bodyPost_ret (results_none rfl _ _ _) rfl ?_
                    exact ⟨rfl, by simpa only [List.append_assoc] using r3, g0⟩
                · have k3' : ¬ (mid : Int) < (e : Int) := by omega
                  have g0 := hg
                  have r1 := hNOT _ hr (by omega)
                  clear hr
                  go_wp2_with (first | (go_at_call 68; refine (hM1 _ r1 k2 j2).mono ?_; rintro q w2 ⟨rfl, ⟨M, r2, s2⟩, h2⟩; have g0 := World.grownBy.trans g0 h2; clear h2 r1; have r3 := hN2 _ M r2 s2 (by omega)))
                  first | refine bodyPost_end (results_none rfl _ _ _) rfl ?_ | refine bodyPost_ret (results_none rfl _ _ _) rfl ?_
                  exact ⟨rfl, by simpa only [List.append_assoc] using r3, g0⟩
              · have j2' : ¬ (r : Int) < (mid : Int) := by omega
                by_cases k3 : mid < e
                · have k3' : (mid : Int) < (e : Int) := by omega
                  by_cases j3 : e < c
                  · have j3' : (e : Int) < (c : Int) := by omega
                    have g0 := hg
                    have r1 := hNOT _ hr (by omega)
                    clear hr
                    obtain ⟨M, r2, s2⟩ := hN1 _ r1 (by omega)
                    clear r1
                    go_wp2_with (first | (go_at_call 68; refine (hM2 _ M r2 s2 k3 j3).mono ?_; rintro q w3 ⟨rfl, r3, h3⟩; have g0 := World.grownBy.trans g0 h3; clear h3 r2))
                    first | refine bodyPost_end (results_none rfl _ _ _) rfl ?_ | refine bodyPost_ret (results_none rfl _ _ _) rfl ?_
                    exact ⟨rfl, by simpa only [List.append_assoc] using r3, g0⟩
                  · have j3' : ¬ (e : Int) < (c : Int) := by omega
                    have g0 := hg
                    have r1 := hNOT _ hr (by omega)
                    clear hr
                    obtain ⟨M, r2, s2⟩ := hN1 _ r1 (by omega)
                    clear r1
                    have r3 := hN2 _ M r2 s2 (by omega)
                    go_wp2_with fail
                    first | refine bodyPost_end (results_none rfl _ _ _) rfl ?_ | refine bodyPost_ret (results_none rfl _ _ _) rfl ?_
                    exact ⟨rfl, by simpa only [List.append_assoc] using r3, g0⟩
                · have k3' : ¬ (mid : Int) < (e : Int) := by omega
                  have g0 := hg
                  have r1 := hNOT _ hr (by omega)
                  clear hr
                  obtain ⟨M, r2, s2⟩ := hN1 _ r1 (by omega)
                  clear r1
                  have r3 := hN2 _ M r2 s2 (by omega)
                  go_wp2_with fail
                  first | refine bodyPost_end (results_none rfl _ _ _) rfl ?_ | refine bodyPost_ret (results_none rfl _ _ _) rfl ?_
                  exact ⟨rfl, by simpa only [List.append_assoc] using r3, g0⟩
            · have k2' : ¬ (a : Int) < (r : Int) := by omega
              by_cases k3 : mid < e
              · have k3' : (mid : Int) < (e : Int) := by omega
                by_cases j3 : e < c
                · have j3' : (e : Int) < (c : Int) := by omega
                  have g0 := hg
                  have r1 := hNOT _ hr (by omega)
                  clear hr
                  obtain ⟨M, r2, s2⟩ := hN1 _ r1 (by omega)
                  clear r1
                  go_wp2_with (first | (go_at_call 68; refine (hM2 _ M r2 s2 k3 j3).mono ?_; rintro q w3 ⟨rfl, r3, h3⟩; have g0 := World.grownBy.trans g0 h3; clear h3 r2))
                  first | refine bodyPost_end (results_none rfl _ _ _) rfl ?_ | refine bodyPost_ret (results_none rfl _ _ _) rfl ?_
                  exact ⟨rfl, by simpa only [List.append_assoc] using r3, g0⟩
                · have j3' : ¬ (e : Int) < (c : Int) := by omega
                  have g0 := hg
                  have r1 := hNOT _ hr (by omega)
                  clear hr
                  obtain ⟨M, r2, s2⟩ := hN1 _ r1 (by omega)
                  clear r1
                  have r3 := hN2 _ M r2 s2 (by omega)
                  go_wp2_with fail
                  first | refine bodyPost_end (results_none rfl _ _ _) rfl ?_ | refine bodyPost_ret (results_none rfl _ _ _) rfl ?_
                  exact ⟨rfl, by simpa only [List.append_assoc] using r3, g0⟩
              · have k3' : ¬ (mid : Int) < (e : Int) := by omega
                have g0 := hg
                have r1 := hNOT _ hr (by omega)
                clear hr
                obtain ⟨M, r2, s2⟩ := hN1 _ r1 (by omega)
                clear r1
                have r3 := hN2 _ M r2 s2 (by omega)
                go_wp2_with fail
                first | refine bodyPost_end (results_none rfl _ _ _) rfl ?_ | refine bodyPost_ret (results_none rfl _ _ _) rfl ?_
                exact ⟨rfl, by simpa only [List.append_assoc] using r3, g0⟩
        · have k1' : ¬ (r : Int) < (m : Int) := by omega
          by_cases k2 : a < r
          · have k2' : (a : Int) < (r : Int) := by omega
            by_cases j2 : r < mid
            · have j2' : (r : Int) < (mid : Int) := by omega
              by_cases k3 : mid < e
              · have k3' : (mid : Int) < (e : Int) := by omega
                by_cases j3 : e < c
                · have j3' : (e : Int) < (c : Int) := by omega
                  have g0 := hg
                  have r1 := hNOT _ hr (by omega)
                  clear hr
                  go_wp2_with (first | (go_at_call 68; refine (hM1 _ r1 k2 j2).mono ?_; rintro q w2 ⟨rfl, ⟨M, r2, s2⟩, h2⟩; have g0 := World.grownBy.trans g0 h2; clear h2 r1) | (go_at_call 68; refine (hM2 _ M r2 s2 k3 j3).mono ?_; rintro q w3 ⟨rfl, r3, h3⟩; have g0 := World.grownBy.trans g0 h3; clear h3 r2))
                  first | refine bodyPost_end (results_none rfl _ _ _) rfl ?_ | refine bodyPost_ret (results_none rfl _ _ _) rfl ?_
                  exact ⟨rfl, by simpa only [List.append_assoc] using r3, g0⟩
                · have j3' : ¬ (e : Int) < (c : Int) := by omega
                  have g0 := hg
                  have r1 := hNOT _ hr (by omega)
                  clear hr
                  go_wp2_with (first | (go_at_call 68; refine (hM1 _ r1 k2 j2).mono ?_; rintro q w2 ⟨rfl, ⟨M, r2, s2⟩, h2⟩; have g0 := World.grownBy.trans g0 h2; clear h2 r1; have r3 := hN2 _ M r2 s2 (by omega)))
                  first | refine bodyPost_end (results_none rfl _ _ _) rfl ?_ | refine bodyPost_ret (results_none rfl _ _ _) rfl ?_
                  exact ⟨rfl, by simpa only [List.append_assoc] using r3, g0⟩
              · have k3' : ¬ (mid : Int) < (e : Int) := by omega
                have g0 := hg
                have r1 := hNOT _ hr (by omega)
                clear hr
                go_wp2_with (first | (go_at_call 68; refine (hM1 _ r1 k2 j2).mono ?_; rintro q w2 ⟨rfl, ⟨M, r2, s2⟩, h2⟩; have g0 := World.grownBy.trans g0 h2; clear h2 r1; have r3 := hN2 _ M r2 s2 (by omega)))
                first | refine bodyPost_end (results_none rfl _ _ _) rfl ?_ | refine bodyPost_ret (results_none rfl _ _ _) rfl ?_
                exact ⟨rfl, by simpa only [List.append_assoc] using r3, g0⟩
            · have j2' : ¬ (r : Int) < (mid : Int) := by omega
              by_cases k3 : mid < e
              · have k3' : (mid : Int) < (e : Int) := by omega
                by_cases j3 : e < c
                · have j3' : (e : Int) < (c : Int) := by omega
                  have g0 := hg
                  have r1 := hNOT _ hr (by omega)
                  clear hr
                  obtain ⟨M, r2, s2⟩ := hN1 _ r1 (by omega)
                  clear r1
                  go_wp2_with (first | (go_at_call 68; refine (hM2 _ M r2 s2 k3 j3).mono ?_; rintro q w3 ⟨rfl, r3, h3⟩; have g0 := World.grownBy.trans g0 h3; clear h3 r2))
                  first | refine bodyPost_end (results_none rfl _ _ _) rfl ?_ | refine bodyPost_ret (results_none rfl _ _ _) rfl ?_
                  exact ⟨rfl, by simpa only [List.append_assoc] using r3, g0⟩
                · have j3' : ¬ (e : Int) < (c : Int) := by omega
                  have g0 := hg
                  have r1 := hNOT _ hr (by omega)
                  clear hr
                  obtain ⟨M, r2, s2⟩ := hN1 _ r1 (by omega)
                  clear r1
                  have r3 := hN2 _ M r2 s2 (by omega)
                  go_wp2_with fail
                  first | refine bodyPost_end (results_none rfl _ _ _) rfl ?_ | refine bodyPost_ret (results_none rfl _ _ _) rfl ?_
                  exact ⟨rfl, by simpa only [List.append_assoc] using r3, g0⟩
              · have k3' : ¬ (mid : Int) < (e : Int) := by omega
                have g0 := hg
                have r1 := hNOT _ hr (by omega)
                clear hr
                obtain ⟨M, r2, s2⟩ := hN1 _ r1 (by omega)
                clear r1
                have r3 := hN2 _ M r2 s2 (by omega)
                go_wp2_with fail
                first | refine bodyPost_end (results_none rfl _ _ _) rfl ?_ | refine bodyPost_ret (results_none rfl _ _ _) rfl ?_
                exact ⟨rfl, by simpa only [List.append_assoc] using r3, g0⟩
          · have k2' : ¬ (a : Int) < (r : Int) := by omega
            by_cases k3 : mid < e
            · have k3' : (mid : Int) < (e : Int) := by omega
              by_cases j3 : e < c
              · have j3' : (e : Int) < (c : Int) := by omega
                have g0 := hg
                have r1 := hNOT _ hr (by omega)
                clear hr
                obtain ⟨M, r2, s2⟩ := hN1 _ r1 (by omega)
                clear r1
                go_wp2_with (first | (go_at_call 68; refine (hM2 _ M r2 s2 k3 j3).mono ?_; rintro q w3 ⟨rfl, r3, h3⟩; have g0 := World.grownBy.trans g0 h3; clear h3 r2))
                first | refine bodyPost_end (results_none rfl _ _ _) rfl ?_ | refine bodyPost_ret (results_none rfl _ _ _) rfl ?_
                exact ⟨rfl, by simpa only [List.append_assoc] using r3, g0⟩
              · have j3' : ¬ (e : Int) < (c : Int) := by omega
                have g0 := hg
                have r1 := hNOT _ hr (by omega)
                clear hr
                obtain ⟨M, r2, s2⟩ := hN1 _ r1 (by omega)
                clear r1
                have r3 := hN2 _ M r2 s2 (by omega)
                go_wp2_with fail
                first | refine bodyPost_end (results_none rfl _ _ _) rfl ?_ | refine bodyPost_ret (results_none rfl _ _ _) rfl ?_
                exact ⟨rfl, by simpa only [List.append_assoc] using r3, g0⟩
            · have k3' : ¬ (mid : Int) < (e : Int) := by omega
              have g0 := hg
              have r1 := hNOT _ hr (by omega)
              clear hr
              obtain ⟨M, r2, s2⟩ := hN1 _ r1 (by omega)
              clear r1
              have r3 := hN2 _ M r2 s2 (by omega)
              go_wp2_with fail
              first | refine bodyPost_end (results_none rfl _ _ _) rfl ?_ | refine bodyPost_ret (results_none rfl _ _ _) rfl ?_
              exact ⟨rfl, by simpa only [List.append_assoc] using r3, g0⟩
  · have hbig' : ¬ (mid : Int) < (m : Int) := by omega
    obtain ⟨lo, hlo⟩ : ∃ lo, lo = 0 := ⟨_, rfl⟩
    obtain ⟨hi, hhi⟩ : ∃ hi, hi = m - a := ⟨_, rfl⟩
    have HHI : Hid (hi ≤ L.length) := hid (by have := HM.out; omega)
    have HLO : Hid (mid - a ≤ lo + R.length) := hid (by have := HC.out; have := HM.out; have := HMID.out; omega)
    have HLO2 : Hid (mid + m ≤ N + a + lo) := hid (by have := HC.out; have := HM.out; have := HMID.out; omega)
    have hlh : lo ≤ hi := by omega
    have HE1 : Hid (∀ u, u = lo → lo = 0 ∨ mid - a - lo = R.length) := hid (fun u _ => .inl hlo)
    have HE2 : Hid (∀ u, u = hi → hi = L.length ∨ hi = mid - a) := hid (fun u _ => .inl (by have := HM.out; omega))
    have hhm : hi ≤ mid - a := by omega
    go_enter Tryd.func68, Tryd.ntmps68
    go_wp2
    go_loopw [20, 21] (fun sv rv wr => ∃ (s r : Nat), sv = .int .i64 (s : Int) ∧ rv = .int .i64 (r : Int) ∧ a + lo ≤ s ∧ s ≤ r ∧ r ≤ a + hi ∧ Hid (∀ k x y, lo ≤ k → k < s - a → L[k]? = some x → R[mid - a - 1 - k]? = some y → ltEL y x = false) ∧ Hid (∀ k x y, r - a ≤ k → k < hi → L[k]? = some x → R[mid - a - 1 - k]? = some y → ltEL y x = true) ∧ RowN wr b (A ++ L ++ R ++ B) ∧ w.grownBy wr (some b)) (fun sv rv _ => (intOf rv).toNat - (intOf sv).toNat)
    case atStart => exact ⟨a + lo, a + hi, by go_num, by go_num, Nat.le_refl _, by omega, Nat.le_refl _, hid (fun k x y h1 h2 => by omega), hid (fun k x y h1 h2 => by omega), hRow, World.grownBy.refl _ _⟩
    case round =>
      obtain ⟨s, r, rfl, rfl, hs1, hsr, hr1, I1, I2, hr, hg⟩ := hrel
      by_cases hlt : s < r
      · have hlt' : (s : Int) < (r : Int) := by omega
        obtain ⟨h, hh⟩ : ∃ h, h = (s + r) / 2 := ⟨_, rfl⟩
        obtain ⟨q, hq⟩ : ∃ q, q = mid + m - 1 - h := ⟨_, rfl⟩
        have hsh : s ≤ h := by omega
        have hhr : h < r := by omega
        have hcA : a ≤ h := by omega
        have hcH : h < a + hi := by omega
        have hcm : h < mid := by omega
        have gL : L[h - a]? = some (L[h - a]'(by have := HHI.out; omega)) := List.getElem?_eq_getElem _
        have gR : R[mid - a - 1 - (h - a)]? = some (R[mid - a - 1 - (h - a)]'(by have := HLO.out; omega)) := List.getElem?_eq_getElem _
        generalize L[h - a]'_ = x at gL
        generalize R[mid - a - 1 - (h - a)]'_ = y at gR
        have gx : (A ++ L ++ R ++ B)[h]? = some x := by
          have h1 := HA.out
          have h2 := HHI.out
          rw [List.append_assoc, List.append_assoc, List.getElem?_append_right (by omega), List.getElem?_append_left (by omega), ← h1]
          exact gL
        have gy : (A ++ L ++ R ++ B)[q]? = some y := by
          have h1 := HA.out
          have h2 := HM.out
          have h3 := HLO.out
          rw [List.append_assoc, List.append_assoc, List.getElem?_append_right (by omega), List.getElem?_append_right (by omega), List.getElem?_append_left (by omega)]
          rw [show q - A.length - L.length = mid - a - 1 - (h - a) by omega]
          exact gR
        obtain ⟨x0, x1, x2, x3, -, -, -, -⟩ := hr.at gx
        have LBgx := hid (hr.lab gx)
        obtain ⟨y0, y1, y2, y3, -, -, -, -⟩ := hr.at gy
        have LBgy := hid (hr.lab gy)
        have hbz := hr.1.1
        have mkS : ∀ w', Below wr.heap.size wr w' → Below wr.heap.size wr w' ∧ w'.cell? ⟨b, h * 4, none⟩ = some (.int .i64 x.1.seq) ∧ w'.cell? ⟨b, h * 4 + 1, none⟩ = some (.int .i64 x.1.time) ∧ w'.cell? ⟨b, h * 4 + 2, none⟩ = some (.slice x.2.1 x.1.labs.length x.2.2) ∧ w'.cell? ⟨b, h * 4 + 3, none⟩ = some (.string ⟨x.1.line.toArray⟩) ∧ w'.cell? ⟨b, q * 4, none⟩ = some (.int .i64 y.1.seq) ∧ w'.cell? ⟨b, q * 4 + 1, none⟩ = some (.int .i64 y.1.time) ∧ w'.cell? ⟨b, q * 4 + 2, none⟩ = some (.slice y.2.1 y.1.labs.length y.2.2) ∧ w'.cell? ⟨b, q * 4 + 3, none⟩ = some (.string ⟨y.1.line.toArray⟩) := fun w' hh => ⟨hh, (hh.cell (p := ⟨b, h * 4, none⟩) hbz).trans x0, (hh.cell (p := ⟨b, h * 4 + 1, none⟩) hbz).trans x1, (hh.cell (p := ⟨b, h * 4 + 2, none⟩) hbz).trans x2, (hh.cell (p := ⟨b, h * 4 + 3, none⟩) hbz).trans x3, (hh.cell (p := ⟨b, q * 4, none⟩) hbz).trans y0, (hh.cell (p := ⟨b, q * 4 + 1, none⟩) hbz).trans y1, (hh.cell (p := ⟨b, q * 4 + 2, none⟩) hbz).trans y2, (hh.cell (p := ⟨b, q * 4 + 3, none⟩) hbz).trans y3⟩
        have hk := mkS wr.drew (Below.refl _ _).drew
        have HC2 := fun w1 (h9 : Below wr.heap.size wr w1) => cmp_callN (b := b) y x w1 (LabW.below LBgy.out h9) (LabW.below LBgx.out h9)
        have HRR := hid hr
        have hlz : Hid (ltEL y x = decide (cmpEL y.1 x.1 < 0)) := hid rfl
        have GL := hid gL
        have GR := hid gR
        clear x0 x1 x2 x3 y0 y1 y2 y3 gy gx hr gL gR
        generalize cmpEL y.1 x.1 = cv at *
        have hqN : q < N := by have := HLO2.out; omega
        have q0 : (0 : Int) ≤ (q : Int) := by omega
        have ql : (q : Int) < (N : Int) := by omega
        have hhN : h < N := by omega
        have hhN' : (h : Int) < (N : Int) := by omega
        obtain ⟨p, hp⟩ : ∃ p, p = mid + m - 1 := ⟨_, rfl⟩
        have HPP : Hid ((mid : Int) + (m : Int) - 1 = (p : Int)) := hid (by omega)
        have HH : Hid (((s : Int) + (r : Int)) / 2 = (h : Int)) := hid (by omega)
        have zq : (p : Int) - (h : Int) = (q : Int) := by omega
        have zqw : IntKind.i64.wrap ((p : Int) - (h : Int)) = (q : Int) := by rw [zq, IntKind.wrap_i64]; omega
        have zqw2 : IntKind.i64.wrap (q : Int) = (q : Int) := by rw [IntKind.wrap_i64]; omega
        have HQ := hid hq
        have HHH := hid hh
        clear hq hp hh
        by_cases hcv : cv < 0
        · have HZ : Hid (ltEL y x = true) := hid (by rw [hlz.out]; exact decide_eq_true hcv)
          have hcd : decide (cv < 0) = true := decide_eq_true hcv
          go_wp2_with fail
          rw [HPP.out, HH.out]
          go_region_held3 (fun w' => Below wr.heap.size wr w' ∧ w'.cell? ⟨b, h * 4, none⟩ = some (.int .i64 x.1.seq) ∧ w'.cell? ⟨b, h * 4 + 1, none⟩ = some (.int .i64 x.1.time) ∧ w'.cell? ⟨b, h * 4 + 2, none⟩ = some (.slice x.2.1 x.1.labs.length x.2.2) ∧ w'.cell? ⟨b, h * 4 + 3, none⟩ = some (.string ⟨x.1.line.toArray⟩) ∧ w'.cell? ⟨b, q * 4, none⟩ = some (.int .i64 y.1.seq) ∧ w'.cell? ⟨b, q * 4 + 1, none⟩ = some (.int .i64 y.1.time) ∧ w'.cell? ⟨b, q * 4 + 2, none⟩ = some (.slice y.2.1 y.1.labs.length y.2.2) ∧ w'.cell? ⟨b, q * 4 + 3, none⟩ = some (.string ⟨y.1.line.toArray⟩)) (exact hk)
            (first | (go_at_call 23; refine (HC2 _ hk.1).mono ?_; rintro e w1 ⟨rfl, b1⟩; have hk := mkS _ (hk.1.trans (b1.mono hk.1.size))))
          have hw1 := hk.1
          clear hk mkS
          go_wp2_with fail
          rw [← HPP.out]
          go_roundw
          case rel => exact ⟨s, h, rfl, by go_num, hs1, by omega, by omega, I1, hid (fun k x' y' h1 h2 => cut_yesN HSL.out HSR.out GL.out GR.out HZ.out k x' y' h1), HRR.out.below hw1, World.grownBy.trans hg (below_grown hw1 _)⟩
          case measure => simp [intOf]; omega
        · have HZ : Hid (ltEL y x = false) := hid (by rw [hlz.out]; exact decide_eq_false hcv)
          have hcd : decide (cv < 0) = false := decide_eq_false hcv
          go_wp2_with fail
          rw [HPP.out, HH.out]
          go_region_held3 (fun w' => Below wr.heap.size wr w' ∧ w'.cell? ⟨b, h * 4, none⟩ = some (.int .i64 x.1.seq) ∧ w'.cell? ⟨b, h * 4 + 1, none⟩ = some (.int .i64 x.1.time) ∧ w'.cell? ⟨b, h * 4 + 2, none⟩ = some (.slice x.2.1 x.1.labs.length x.2.2) ∧ w'.cell? ⟨b, h * 4 + 3, none⟩ = some (.string ⟨x.1.line.toArray⟩) ∧ w'.cell? ⟨b, q * 4, none⟩ = some (.int .i64 y.1.seq) ∧ w'.cell? ⟨b, q * 4 + 1, none⟩ = some (.int .i64 y.1.time) ∧ w'.cell? ⟨b, q * 4 + 2, none⟩ = some (.slice y.2.1 y.1.labs.length y.2.2) ∧ w'.cell? ⟨b, q * 4 + 3, none⟩ = some (.string ⟨y.1.line.toArray⟩)) (exact hk)
            (first | (go_at_call 23; refine (HC2 _ hk.1).mono ?_; rintro e w1 ⟨rfl, b1⟩; have hk := mkS _ (hk.1.trans (b1.mono hk.1.size))))
          have hw1 := hk.1
          clear hk mkS
          go_wp2_with fail
          rw [← HPP.out]
          go_roundw
          case rel => exact ⟨h + 1, r, by go_num, rfl, by omega, by omega, hr1, hid (fun k x' y' h1 h2 => cut_noN HSL.out HSR.out GL.out GR.out HZ.out (by omega) k x' y' (by omega)), I2, HRR.out.below hw1, World.grownBy.trans hg (below_grown hw1 _)⟩
          case measure => simp [intOf]; omega
      · have hse : r = s := by omega
        subst hse
        obtain ⟨e, he⟩ : ∃ e, e = mid + m - r := ⟨_, rfl⟩
        have ze : (mid : Int) + (m : Int) - (r : Int) = (e : Int) := by omega
        have zew : IntKind.i64.wrap (e : Int) = (e : Int) := by rw [IntKind.wrap_i64]; omega
        have hme : m ≤ e := by omega
        have hec : e ≤ c := by have := HC.out; omega
        have hrm : r ≤ m := by have := HHI.out; have := HM.out; omega
        have hra : a ≤ r := by omega
        have hrmid : r ≤ mid := by omega
        have hcut := cut_halvesN HSL.out HSR.out (h := mid - a) (u := r - a) (lo := lo) (hi := hi) (by omega) (by omega) HHI.out (by omega) HLO.out (HE1.out (r - a)) (HE2.out (r - a)) I1.out I2.out
        have HLL : Hid (L = L.take (r - a) ++ L.drop (r - a)) := hid (List.take_append_drop _ _).symm
        have HRR : Hid (R = R.take (mid - a - (r - a)) ++ R.drop (mid - a - (r - a))) := hid (List.take_append_drop _ _).symm
        have HLEN : Hid ((L.take (r - a)).length = r - a ∧ (L.drop (r - a)).length = m - r ∧ (R.take (mid - a - (r - a))).length = e - m ∧ (R.drop (mid - a - (r - a))).length = c - e) := hid (by
          have h1 := HM.out
          have h2 := HC.out
          have h3 := HHI.out
          have h4 := HLO.out
          simp only [List.length_take, List.length_drop]
          omega)
        generalize L.take (r - a) = L1 at *
        generalize L.drop (r - a) = L2 at *
        generalize R.take (mid - a - (r - a)) = R1 at *
        generalize R.drop (mid - a - (r - a)) = R2 at *
        have HCUT := hid hcut
        have HE := hid he
        have hS4 : Hid (SortedL ltEL L1 ∧ SortedL ltEL L2 ∧ SortedL ltEL R1 ∧ SortedL ltEL R2) := hid (by
          have h1 := HSL.out
          have h2 := HSR.out
          rw [HLL.out] at h1
          rw [HRR.out] at h2
          exact ⟨(SortedL.append_iff.1 h1).1, (SortedL.append_iff.1 h1).2.1, (SortedL.append_iff.1 h2).1, (SortedL.append_iff.1 h2).2.1⟩)
        have hROT : ∀ w1, RowN w1 b (A ++ L ++ R ++ B) → r < m → m < e → Calls Tryd.prog 82 #[.slice (some ⟨b, 0, none⟩) N cap, .int .i64 r, .int .i64 m, .int .i64 e, cmpG 23] w1 fun q w' => q = .returned (.tuple #[]) ∧ RowN w' b (A ++ L1 ++ R1 ++ (L2 ++ R2 ++ B)) ∧ w1.grownBy w' (some b) := fun w1 hw h1 h2 => by
          obtain ⟨g1, g2, g3, g4⟩ := HLEN.out
          have g5 := HA.out
          have g6 := HN.out
          have ee : A ++ L ++ R ++ B = (A ++ L1) ++ L2 ++ R1 ++ (R2 ++ B) := by rw [HLL.out, HRR.out]; simp only [List.append_assoc]
          have e2 : A ++ L1 ++ R1 ++ (L2 ++ R2 ++ B) = (A ++ L1) ++ R1 ++ L2 ++ (R2 ++ B) := by simp only [List.append_assoc]
          rw [e2]
          exact rotate_isN b cap N r m e (A ++ L1) L2 R1 (R2 ++ B) _ w1 (by rw [← ee]; simp only [List.length_append]; omega) (ee ▸ hw) (by rw [List.length_append]; omega) (by rw [List.length_append]; omega) (by omega) (by omega) (by omega) (by omega)
        have hNOT : ∀ w1, RowN w1 b (A ++ L ++ R ++ B) → ¬ (r < m ∧ m < e) → RowN w1 b (A ++ L1 ++ R1 ++ (L2 ++ R2 ++ B)) := fun w1 hw h1 => by
          obtain ⟨g1, g2, g3, g4⟩ := HLEN.out
          rw [HLL.out, HRR.out] at hw
          have h2 : L2 = [] ∨ R1 = [] := by
            rcases Nat.lt_or_ge r m with h | h
            · exact .inr (List.length_eq_zero_iff.1 (by omega))
            · exact .inl (List.length_eq_zero_iff.1 (by omega))
          rcases h2 with rfl | rfl <;> simpa only [List.append_assoc, List.append_nil, List.nil_append] using hw
        have hM1 : ∀ w1, RowN w1 b (A ++ L1 ++ R1 ++ (L2 ++ R2 ++ B)) → a < r → r < mid → Calls Tryd.prog 68 #[.slice (some ⟨b, 0, none⟩) N cap, .int .i64 a, .int .i64 r, .int .i64 mid, cmpG 23] w1 fun q w' => q = .returned (.tuple #[]) ∧ (∃ M, RowN w' b (A ++ M ++ (L2 ++ R2 ++ B)) ∧ StableOf ltEL (L1 ++ R1) M) ∧ w1.grownBy w' (some b) := fun w1 hw h1 h2 => by
          obtain ⟨g1, g2, g3, g4⟩ := HLEN.out
          have g5 := HA.out
          have g6 := HN.out
          have g7 := HNN.out
          have g8 := HM.out
          have g9 := HC.out
          have g10 := HE.out
          exact IH b cap N a r mid A L1 R1 (L2 ++ R2 ++ B) w1 (by omega) (by simp only [List.length_append]; omega) hw g5 (by omega) (by omega) (by omega) (by omega) hS4.out.1 hS4.out.2.2.1 hlen
        have hN1 : ∀ w1, RowN w1 b (A ++ L1 ++ R1 ++ (L2 ++ R2 ++ B)) → ¬ (a < r ∧ r < mid) → ∃ M, RowN w1 b (A ++ M ++ (L2 ++ R2 ++ B)) ∧ StableOf ltEL (L1 ++ R1) M := fun w1 hw h1 => by
          obtain ⟨g1, g2, g3, g4⟩ := HLEN.out
          have g10 := HE.out
          refine ⟨L1 ++ R1, by simpa only [List.append_assoc] using hw, StableOf.refl ?_⟩
          have h2 : L1 = [] ∨ R1 = [] := by
            rcases Nat.lt_or_ge a r with h | h
            · exact .inr (List.length_eq_zero_iff.1 (by omega))
            · exact .inl (List.length_eq_zero_iff.1 (by omega))
          rcases h2 with rfl | rfl
          · exact hS4.out.2.2.1
          · rw [List.append_nil]; exact hS4.out.1
        have hM2 : ∀ w1 M, RowN w1 b (A ++ M ++ (L2 ++ R2 ++ B)) → StableOf ltEL (L1 ++ R1) M → mid < e → e < c → Calls Tryd.prog 68 #[.slice (some ⟨b, 0, none⟩) N cap, .int .i64 mid, .int .i64 e, .int .i64 c, cmpG 23] w1 fun q w' => q = .returned (.tuple #[]) ∧ (∃ M, RowN w' b (A ++ M ++ B) ∧ StableOf ltEL (L ++ R) M) ∧ w1.grownBy w' (some b) := fun w1 M hw hM h1 h2 => by
          obtain ⟨g1, g2, g3, g4⟩ := HLEN.out
          have g5 := HA.out
          have g6 := HN.out
          have g7 := HNN.out
          have g8 := HM.out
          have g9 := HC.out
          have g10 := HE.out
          have g11 := StableOf.length ltEL_ord hM
          rw [List.length_append] at g11
          have e2 : A ++ M ++ (L2 ++ R2 ++ B) = (A ++ M) ++ L2 ++ R2 ++ B := by simp only [List.append_assoc]
          refine (IH b cap N mid e c (A ++ M) L2 R2 B w1 (by omega) (by simp only [List.length_append]; omega) (e2 ▸ hw) (by rw [List.length_append]; omega) (by omega) (by omega) (by omega) (by omega) hS4.out.2.1 hS4.out.2.2.2 hlen).mono ?_
          rintro q w' ⟨rfl, ⟨M2, k1, k2⟩, k3⟩
          have s1 := HSL.out
          have s2 := HSR.out
          rw [HLL.out] at s1
          rw [HRR.out] at s2
          refine ⟨rfl, ⟨M ++ M2, by simpa only [List.append_assoc] using k1, ?_⟩, k3⟩
          rw [HLL.out, HRR.out]
          exact StableOf.halves ltEL_ord s1 s2 HCUT.out.1 HCUT.out.2 hM k2
        have hN2 : ∀ w1 M, RowN w1 b (A ++ M ++ (L2 ++ R2 ++ B)) → StableOf ltEL (L1 ++ R1) M → ¬ (mid < e ∧ e < c) → ∃ M, RowN w1 b (A ++ M ++ B) ∧ StableOf ltEL (L ++ R) M := fun w1 M hw hM h1 => by
          obtain ⟨g1, g2, g3, g4⟩ := HLEN.out
          have g10 := HE.out
          have s1 := HSL.out
          have s2 := HSR.out
          rw [HLL.out] at s1
          rw [HRR.out] at s2
          refine ⟨M ++ (L2 ++ R2), by simpa only [List.append_assoc] using hw, ?_⟩
          rw [HLL.out, HRR.out]
          refine StableOf.halves ltEL_ord s1 s2 HCUT.out.1 HCUT.out.2 hM (StableOf.refl ?_)
          have h2 : L2 = [] ∨ R2 = [] := by
            rcases Nat.lt_or_ge e c with h | h
            · exact .inl (List.length_eq_zero_iff.1 (by omega))
            · exact .inr (List.length_eq_zero_iff.1 (by omega))
          rcases h2 with rfl | rfl
          · exact hS4.out.2.2.2
          · rw [List.append_nil]; exact hS4.out.2.1
        clear he hcut
        by_cases k1 : r < m
        · have k1' : (r : Int) < (m : Int) := by omega
          by_cases j1 : m < e
          · have j1' : (m : Int) < (e : Int) := by omega
            by_cases k2 : a < r
            · have k2' : (a : Int) < (r : Int) := by omega
              by_cases j2 : r < mid
              · have j2' : (r : Int) < (mid : Int) := by omega
                by_cases k3 : mid < e
                · have k3' : (mid : Int) < (e : Int) := by omega
                  by_cases j3 : e < c
                  · have j3' : (e : Int) < (c : Int) := by omega
                    have g0 := hg
                    go_wp2_with (first | (go_at_call 82; refine (hROT _ hr k1 j1).mono ?_; rintro q w1 ⟨rfl, r1, h1⟩; have g0 := World.grownBy.trans g0 h1; clear h1 hr) | (go_at_call 68; refine (hM1 _ r1 k2 j2).mono ?_; rintro q w2 ⟨rfl, ⟨M, r2, s2⟩, h2⟩; have g0 := World.grownBy.trans g0 h2; clear h2 r1) | (go_at_call 68; refine (hM2 _ M r2 s2 k3 j3).mono ?_; rintro q w3 ⟨rfl, r3, h3⟩; have g0 := World.grownBy.trans g0 h3; clear h3 r2))
                    first | refine bodyPost_end (results_none rfl _ _ _) rfl ?_ | refine bodyPost_ret (results_none rfl _ _ _) rfl ?_
                    exact ⟨rfl, by simpa only [List.append_assoc] using r3, g0⟩
                  · have j3' : ¬ (e : Int) < (c : Int) := by omega
                    have g0 := hg
                    go_wp2_with (first | (go_at_call 82; refine (hROT _ hr k1 j1).mono ?_; rintro q w1 ⟨rfl, r1, h1⟩; have g0 := World.grownBy.trans g0 h1; clear h1 hr) | (go_at_call 68; refine (hM1 _ r1 k2 j2).mono ?_; rintro q w2 ⟨rfl, ⟨M, r2, s2⟩, h2⟩; have g0 := World.grownBy.trans g0 h2; clear h2 r1; have r3 := hN2 _ M r2 s2 (by omega)))
                    first | refine bodyPost_end (results_none rfl _ _ _) rfl ?_ | refine bodyPost_ret (results_none rfl _ _ _) rfl ?_
                    exact ⟨rfl, by simpa only [List.append_assoc] using r3, g0⟩
                · have k3' : ¬ (mid : Int) < (e : Int) := by omega
                  have g0 := hg
                  go_wp2_with (first | (go_at_call 82; refine (hROT _ hr k1 j1).mono ?_; rintro q w1 ⟨rfl, r1, h1⟩; have g0 := World.grownBy.trans g0 h1; clear h1 hr) | (go_at_call 68; refine (hM1 _ r1 k2 j2).mono ?_; rintro q w2 ⟨rfl, ⟨M, r2, s2⟩, h2⟩; have g0 := World.grownBy.trans g0 h2; clear h2 r1; have r3 := hN2 _ M r2 s2 (by omega)))
                  first | refine bodyPost_end (results_none rfl _ _ _) rfl ?_ | refine bodyPost_ret (results_none rfl _ _ _) rfl ?_
                  exact ⟨rfl, by simpa only [List.append_assoc] using r3, g0⟩
              · have j2' : ¬ (r : Int) < (mid : Int) := by omega
                by_cases k3 : mid < e
                · have k3' : (mid : Int) < (e : Int) := by omega
                  by_cases j3 : e < c
                  · have j3' : (e : Int) < (c : Int) := by omega
                    have g0 := hg
                    go_wp2_with (first | (go_at_call 82; refine (hROT _ hr k1 j1).mono ?_; rintro q w1 ⟨rfl, r1, h1⟩; have g0 := World.grownBy.trans g0 h1; clear h1 hr; obtain ⟨M, r2, s2⟩ := hN1 _ r1 (by omega); clear r1) | (go_at_call 68; refine (hM2 _ M r2 s2 k3 j3).mono ?_; rintro q w3 ⟨rfl, r3, h3⟩; have g0 := World.grownBy.trans g0 h3; clear h3 r2))
                    first | refine bodyPost_end (results_none rfl _ _ _) rfl ?_ | refine bodyPost_ret (results_none rfl _ _ _) rfl ?_
                    exact ⟨rfl, by simpa only [List.append_assoc] using r3, g0⟩
                  · have j3' : ¬ (e : Int) < (c : Int) := by omega
                    have g0 := hg
                    go_wp2_with (first | (go_at_call 82; refine (hROT _ hr k1 j1).mono ?_; rintro q w1 ⟨rfl, r1, h1⟩; have g0 := World.grownBy.trans g0 h1; clear h1 hr; obtain ⟨M, r2, s2⟩ := hN1 _ r1 (by omega); clear r1; have r3 := hN2 _ M r2 s2 (by omega)))
                    first | refine bodyPost_end (results_none rfl _ _ _) rfl ?_ | refine bodyPost_ret (results_none rfl _ _ _) rfl ?_
                    exact ⟨rfl, by simpa only [List.append_assoc] using r3, g0⟩
                · have k3' : ¬ (mid : Int) < (e : Int) := by omega
                  have g0 := hg
                  go_wp2_with (first | (go_at_call 82; refine (hROT _ hr k1 j1).mono ?_; rintro q w1 ⟨rfl, r1, h1⟩; have g0 := World.grownBy.trans g0 h1; clear h1 hr; obtain ⟨M, r2, s2⟩ := hN1 _ r1 (by omega); clear r1; have r3 := hN2 _ M r2 s2 (by omega)))
                  first | refine bodyPost_end (results_none rfl _ _ _) rfl ?_ | refine bodyPost_ret (results_none rfl _ _ _) rfl ?_
                  exact ⟨rfl, by simpa only [List.append_assoc] using r3, g0⟩
            · have k2' : ¬ (a : Int) < (r : Int) := by omega
              by_cases k3 : mid < e
              · have k3' : (mid : Int) < (e : Int) := by omega
                by_cases j3 : e < c
                · have j3' : (e : Int) < (c : Int) := by omega
                  have g0 := hg
                  go_wp2_with (first | (go_at_call 82; refine (hROT _ hr k1 j1).mono ?_; rintro q w1 ⟨rfl, r1, h1⟩; have g0 := World.grownBy.trans g0 h1; clear h1 hr; obtain ⟨M, r2, s2⟩ := hN1 _ r1 (by omega); clear r1) | (go_at_call 68; refine (hM2 _ M r2 s2 k3 j3).mono ?_; rintro q w3 ⟨rfl, r3, h3⟩; have g0 := World.grownBy.trans g0 h3; clear h3 r2))
                  first | refine bodyPost_end (results_none rfl _ _ _) rfl ?_ | refine bodyPost_ret (results_none rfl _ _ _) rfl ?_
                  exact ⟨rfl, by simpa only [List.append_assoc] using r3, g0⟩
                · have j3' : ¬ (e : Int) < (c : Int) := by omega
                  have g0 := hg
                  go_wp2_with (first | (go_at_call 82; refine (hROT _ hr k1 j1).mono ?_; rintro q w1 ⟨rfl, r1, h1⟩; have g0 := World.grownBy.trans g0 h1; clear h1 hr; obtain ⟨M, r2, s2⟩ := hN1 _ r1 (by omega); clear r1; have r3 := hN2 _ M r2 s2 (by omega)))
                  first | refine bodyPost_end (results_none rfl _ _ _) rfl ?_ | refine bodyPost_ret (results_none rfl _ _ _) rfl ?_
                  exact ⟨rfl, by simpa only [List.append_assoc] using r3, g0⟩
              · have k3' : ¬ (mid : Int) < (e : Int) := by omega
                have g0 := hg
                go_wp2_with (first | (go_at_call 82; refine (hROT _ hr k1 j1).mono ?_; rintro q w1 ⟨rfl, r1, h1⟩; have g0 := World.grownBy.trans g0 h1; clear h1 hr; obtain ⟨M, r2, s2⟩ := hN1 _ r1 (by omega); clear r1; have r3 := hN2 _ M r2 s2 (by omega)))
                first | refine bodyPost_end (results_none rfl _ _ _) rfl ?_ | refine bodyPost_ret (results_none rfl _ _ _) rfl ?_
                exact ⟨rfl, by simpa only [List.append_assoc] using r3, g0⟩
          · have j1' : ¬ (m : Int) < (e : Int) := by omega
            by_cases k2 : a < r
            · have k2' : (a : Int) < (r : Int) := by omega
              by_cases j2 : r < mid
              · have j2' : (r : Int) < (mid : Int) := by omega
                by_cases k3 : mid < e
                · have k3' : (mid : Int) < (e : Int) := by omega
                  by_cases j3 : e < c
                  · have j3' : (e : Int) < (c : Int) := by omega
                    have g0 := hg
                    have r1 := hNOT _ hr (by omega)
                    clear hr
                    go_wp2_with (first | (go_at_call 68; refine (hM1 _ r1 k2 j2).mono ?_; rintro q w2 ⟨rfl, ⟨M, r2, s2⟩, h2⟩; have g0 := World.grownBy.trans g0 h2; clear h2 r1) | (go_at_call 68; refine (hM2 _ M r2 s2 k3 j3).mono ?_; rintro q w3 ⟨rfl, r3, h3⟩; have g0 := World.grownBy.trans g0 h3; clear h3 r2))
                    first | refine bodyPost_end (results_none rfl _ _ _) rfl ?_ | refine bodyPost_ret (results_none rfl _ _ _) rfl ?_
                    exact ⟨rfl, by simpa only [List.append_assoc] using r3, g0⟩
                  · have j3' : ¬ (e : Int) < (c : Int) := by omega
                    have g0 := hg
                    have r1 := hNOT _ hr (by omega)
                    clear hr
                    go_wp2_with (first | (go_at_call 68; refine (hM1 _ r1 k2 j2).mono ?_; rintro q w2 ⟨rfl, ⟨M, r2, s2⟩, h2⟩; have g0 := World.grownBy.trans g0 h2; clear h2 r1; have r3 := hN2 _ M r2 s2 (by omega)))
                    first | refine bodyPost_end (results_none rfl _ _ _) rfl ?_ | refine bodyPost_ret (results_none rfl _ _ _) rfl ?_
                    exact ⟨rfl, by simpa only [List.append_assoc] using r3, g0⟩
                · have k3' : ¬ (mid : Int) < (e : Int) := by omega
                  have g0 := hg
                  have r1 := hNOT _ hr (by omega)
                  clear hr
                  go_wp2_with (first | (go_at_call 68; refine (hM1 _ r1 k2 j2).mono ?_; rintro q w2 ⟨rfl, ⟨M, r2, s2⟩, h2⟩; have g0 := World.grownBy.trans g0 h2; clear h2 r1; have r3 := hN2 _ M r2 s2 (by omega)))
                  first | refine bodyPost_end (results_none rfl _ _ _) rfl ?_ | refine bodyPost_ret (results_none rfl _ _ _) rfl ?_
                  exact ⟨rfl, by simpa only [List.append_assoc] using r3, g0⟩
              · have j2' : ¬ (r : Int) < (mid : Int) := by omega
                by_cases k3 : mid < e
                · have k3' : (mid : Int) < (e : Int) := by omega
                  by_cases j3 : e < c
                  · have j3' : (e : Int) < (c : Int) := by omega
                    have g0 := hg
                    have r1 := hNOT _ hr (by omega)
                    clear hr
                    obtain ⟨M, r2, s2⟩ := hN1 _ r1 (by omega)
                    clear r1
                    go_wp2_with (first | (go_at_call 68; refine (hM2 _ M r2 s2 k3 j3).mono ?_; rintro q w3 ⟨rfl, r3, h3⟩; have g0 := World.grownBy.trans g0 h3; clear h3 r2))
                    first | refine bodyPost_end (results_none rfl _ _ _) rfl ?_ | refine bodyPost_ret (results_none rfl _ _ _) rfl ?_
                    exact ⟨rfl, by simpa only [List.append_assoc] using r3, g0⟩
                  · have j3' : ¬ (e : Int) < (c : Int) := by omega
                    have g0 := hg
                    have r1 := hNOT _ hr (by omega)
                    clear hr
                    obtain ⟨M, r2, s2⟩ := hN1 _ r1 (by omega)
                    clear r1
                    have r3 := hN2 _ M r2 s2 (by omega)
                    go_wp2_with fail
                    first | refine bodyPost_end (results_none rfl _ _ _) rfl ?_ | refine bodyPost_ret (results_none rfl _ _ _) rfl ?_
                    exact ⟨rfl, by simpa only [List.append_assoc] using r3, g0⟩
                · have k3' : ¬ (mid : Int) < (e : Int) := by omega
                  have g0 := hg
                  have r1 := hNOT _ hr (by omega)
                  clear hr
                  obtain ⟨M, r2, s2⟩ := hN1 _ r1 (by omega)
                  clear r1
                  have r3 := hN2 _ M r2 s2 (by omega)
                  go_wp2_with fail
                  first | refine bodyPost_end (results_none rfl _ _ _) rfl ?_ | refine bodyPost_ret (results_none rfl _ _ _) rfl ?_
                  exact ⟨rfl, by simpa only [List.append_assoc] using r3, g0⟩
            · have k2' : ¬ (a : Int) < (r : Int) := by omega
              by_cases k3 : mid < e
              · have k3' : (mid : Int) < (e : Int) := by omega
                by_cases j3 : e < c
                · have j3' : (e : Int) < (c : Int) := by omega
                  have g0 := hg
                  have r1 := hNOT _ hr (by omega)
                  clear hr
                  obtain ⟨M, r2, s2⟩ := hN1 _ r1 (by omega)
                  clear r1
                  go_wp2_with (first | (go_at_call 68; refine (hM2 _ M r2 s2 k3 j3).mono ?_; rintro q w3 ⟨rfl, r3, h3⟩; have g0 := World.grownBy.trans g0 h3; clear h3 r2))
                  first | refine bodyPost_end (results_none rfl _ _ _) rfl ?_ | refine bodyPost_ret (results_none rfl _ _ _) rfl ?_
                  exact ⟨rfl, by simpa only [List.append_assoc] using r3, g0⟩
                · have j3' : ¬ (e : Int) < (c : Int) := by omega
                  have g0 := hg
                  have r1 := hNOT _ hr (by omega)
                  clear hr
                  obtain ⟨M, r2, s2⟩ := hN1 _ r1 (by omega)
                  clear r1
                  have r3 := hN2 _ M r2 s2 (by omega)
                  go_wp2_with fail
                  first | refine bodyPost_end (results_none rfl _ _ _) rfl ?_ | refine bodyPost_ret (results_none rfl _ _ _) rfl ?_
                  exact ⟨rfl, by simpa only [List.append_assoc] using r3, g0⟩
              · have k3' : ¬ (mid : Int) < (e : Int) := by omega
                have g0 := hg
                have r1 := hNOT _ hr (by omega)
                clear hr
                obtain ⟨M, r2, s2⟩ := hN1 _ r1 (by omega)
                clear r1
                have r3 := hN2 _ M r2 s2 (by omega)
                go_wp2_with fail
                first | refine bodyPost_end (results_none rfl _ _ _) rfl ?_ | refine bodyPost_ret (results_none rfl _ _ _) rfl ?_
                exact ⟨rfl, by simpa only [List.append_assoc] using r3, g0⟩
        · have k1' : ¬ (r : Int) < (m : Int) := by omega
          by_cases k2 : a < r
          · have k2' : (a : Int) < (r : Int) := by omega
            by_cases j2 : r < mid
            · have j2' : (r : Int) < (mid : Int) := by omega
              by_cases k3 : mid < e
              · have k3' : (mid : Int) < (e : Int) := by omega
                by_cases j3 : e < c
                · have j3' : (e : Int) < (c : Int) := by omega
                  have g0 := hg
                  have r1 := hNOT _ hr (by omega)
                  clear hr
                  go_wp2_with (first | (go_at_call 68; refine (hM1 _ r1 k2 j2).mono ?_; rintro q w2 ⟨rfl, ⟨M, r2, s2⟩, h2⟩; have g0 := World.grownBy.trans g0 h2; clear h2 r1) | (go_at_call 68; refine (hM2 _ M r2 s2 k3 j3).mono ?_; rintro q w3 ⟨rfl, r3, h3⟩; have g0 := World.grownBy.trans g0 h3; clear h3 r2))
                  first | refine bodyPost_end (results_none rfl _ _ _) rfl ?_ | refine bodyPost_ret (results_none rfl _ _ _) rfl ?_
                  exact ⟨rfl, by simpa only [List.append_assoc] using r3, g0⟩
                · have j3' : ¬ (e : Int) < (c : Int) := by omega
                  have g0 := hg
                  have r1 := hNOT _ hr (by omega)
                  clear hr
                  go_wp2_with (first | (go_at_call 68; refine (hM1 _ r1 k2 j2).mono ?_; rintro q w2 ⟨rfl, ⟨M, r2, s2⟩, h2⟩; have g0 := World.grownBy.trans g0 h2; clear h2 r1; have r3 := hN2 _ M r2 s2 (by omega)))
                  first | refine bodyPost_end (results_none rfl _ _ _) rfl ?_ | refine bodyPost_ret (results_none rfl _ _ _) rfl ?_
                  exact ⟨rfl, by simpa only [List.append_assoc] using r3, g0⟩
              · have k3' : ¬ (mid : Int) < (e : Int) := by omega
                have g0 := hg
                have r1 := hNOT _ hr (by omega)
                clear hr
                go_wp2_with (first | (go_at_call 68; refine (hM1 _ r1 k2 j2).mono ?_; rintro q w2 ⟨rfl, ⟨M, r2, s2⟩, h2⟩; have g0 := World.grownBy.trans g0 h2; clear h2 r1; have r3 := hN2 _ M r2 s2 (by omega)))
                first | refine bodyPost_end (results_none rfl _ _ _) rfl ?_ | refine bodyPost_ret (results_none rfl _ _ _) rfl ?_
                exact ⟨rfl, by simpa only [List.append_assoc] using r3, g0⟩
            · have j2' : ¬ (r : Int) < (mid : Int) := by omega
              by_cases k3 : mid < e
              · have k3' : (mid : Int) < (e : Int) := by omega
                by_cases j3 : e < c
                · have j3' : (e : Int) < (c : Int) := by omega
                  have g0 := hg
                  have r1 := hNOT _ hr (by omega)
                  clear hr
                  obtain ⟨M, r2, s2⟩ := hN1 _ r1 (by omega)
                  clear r1
                  go_wp2_with (first | (go_at_call 68; refine (hM2 _ M r2 s2 k3 j3).mono ?_; rintro q w3 ⟨rfl, r3, h3⟩; have g0 := World.grownBy.trans g0 h3; clear h3 r2))
                  first | refine bodyPost_end (results_none rfl _ _ _) rfl ?_ | refine bodyPost_ret (results_none rfl _ _ _) rfl ?_
                  exact ⟨rfl, by simpa only [List.append_assoc] using r3, g0⟩
                · have j3' : ¬ (e : Int) < (c : Int) := by omega
                  have g0 := hg
                  have r1 := hNOT _ hr (by omega)
                  clear hr
                  obtain ⟨M, r2, s2⟩ := hN1 _ r1 (by omega)
                  clear r1
                  have r3 := hN2 _ M r2 s2 (by omega)
                  go_wp2_with fail
                  first | refine bodyPost_end (results_none rfl _ _ _) rfl ?_ | refine bodyPost_ret (results_none rfl _ _ _) rfl ?_
                  exact ⟨rfl, by simpa only [List.append_assoc] using r3, g0⟩
              · have k3' : ¬ (mid : Int) < (e : Int) := by omega
                have g0 := hg
                have r1 := hNOT _ hr (by omega)
                clear hr
                obtain ⟨M, r2, s2⟩ := hN1 _ r1 (by omega)
                clear r1
                have r3 := hN2 _ M r2 s2 (by omega)
                go_wp2_with fail
                first | refine bodyPost_end (results_none rfl _ _ _) rfl ?_ | refine bodyPost_ret (results_none rfl _ _ _) rfl ?_
                exact ⟨rfl, by simpa only [List.append_assoc] using r3, g0⟩
          · have k2' : ¬ (a : Int) < (r : Int) := by omega
            by_cases k3 : mid < e
            · have k3' : (mid : Int) < (e : Int) := by omega
              by_cases j3 : e < c
              · have j3' : (e : Int) < (c : Int) := by omega
                have g0 := hg
                have r1 := hNOT _ hr (by omega)
                clear hr
                obtain ⟨M, r2, s2⟩ := hN1 _ r1 (by omega)
                clear r1
                go_wp2_with (first | (go_at_call 68; refine (hM2 _ M r2 s2 k3 j3).mono ?_; rintro q w3 ⟨rfl, r3, h3⟩; have g0 := World.grownBy.trans g0 h3; clear h3 r2))
                first | refine bodyPost_end (results_none rfl _ _ _) rfl ?_ | refine bodyPost_ret (results_none rfl _ _ _) rfl ?_
                exact ⟨rfl, by simpa only [List.append_assoc] using r3, g0⟩
              · have j3' : ¬ (e : Int) < (c : Int) := by omega
                have g0 := hg
                have r1 := hNOT _ hr (by omega)
                clear hr
                obtain ⟨M, r2, s2⟩ := hN1 _ r1 (by omega)
                clear r1
                have r3 := hN2 _ M r2 s2 (by omega)
                go_wp2_with fail
                first | refine bodyPost_end (results_none rfl _ _ _) rfl ?_ | refine bodyPost_ret (results_none rfl _ _ _) rfl ?_
                exact ⟨rfl, by simpa only [List.append_assoc] using r3, g0⟩
            · have k3' : ¬ (mid : Int) < (e : Int) := by omega
              have g0 := hg
              have r1 := hNOT _ hr (by omega)
              clear hr
              obtain ⟨M, r2, s2⟩ := hN1 _ r1 (by omega)
              clear r1
              have r3 := hN2 _ M r2 s2 (by omega)
              go_wp2_with fail
              first | refine bodyPost_end (results_none rfl _ _ _) rfl ?_ | refine bodyPost_ret (results_none rfl _ _ _) rfl ?_
              exact ⟨rfl, by simpa only [List.append_assoc] using r3, g0⟩
end Go.Proofs.YtaoeabnpmpimgaaDoor
end
section
namespace Go.Proofs.YtaoeabnpmpimgaaDoor
open Go.RowKit Go.Icz
theorem symAllN : ∀ n, SymAllN n
  | 0 => fun b cap N a m c A L R B w hn hN hRow ha hm hc hL hR hSL hSR hlen => by omega
  | n + 1 => fun b cap N a m c A L R B w hn hN hRow ha hm hc hL hR hSL hSR hlen => by
    rcases Nat.lt_or_ge 1 L.length with h1 | h1
    · rcases Nat.lt_or_ge 1 R.length with h2 | h2
      · exact symMerge_genN n (symAllN n) b cap N a m c A L R B w hn hN hRow ha hm hc h1 h2 hSL hSR hlen
      · obtain ⟨y, rfl⟩ := List.length_eq_one_iff.1 (show R.length = 1 by omega)
        have hRow' : RowN w b (A ++ L ++ y :: B) := by simpa only [List.append_assoc, List.cons_append, List.nil_append] using hRow
        exact symMerge_lastN b cap N a m c A L y B w (by simpa using hN) hRow' ha hm (by simpa using hc) h1 hSL hlen
    · obtain ⟨x, rfl⟩ := List.length_eq_one_iff.1 (show L.length = 1 by omega)
      have hRow' : RowN w b (A ++ x :: R ++ B) := by simpa only [List.append_assoc, List.cons_append, List.nil_append] using hRow
      exact symMerge_oneN b cap N a m c A x R B w (by simp at hN; omega) hRow' ha (by simpa using hm) hc hSR hlen
end Go.Proofs.YtaoeabnpmpimgaaDoor
end
section
namespace Go.Proofs.YtaoeabnpmpimgaaDoor
open Go.RowKit Go.Icz
/-- Two blocks, merged, make one. -/
theorem merge_blocksN {k : Nat} {X XD D x1 x2 XR r1 r2 R M : List EV} (hX : X = XD ++ (x1 ++ (x2 ++ XR))) (hS : SBF ltEL (2 * k) XD D) (h1 : x1.length = k) (h2 : x2.length = k) (s1 : StableOf ltEL x1 r1) (s2 : StableOf ltEL x2 r2) (hM : StableOf ltEL (r1 ++ r2) M) :
    X = (XD ++ (x1 ++ x2)) ++ XR ∧ SBF ltEL (2 * k) (XD ++ (x1 ++ x2)) (D ++ M) ∧ M.length = 2 * k := by
  have hp := StableOf.pieces s1 s2 hM
  have hl := StableOf.length ltEL_ord hp
  rw [List.length_append] at hl
  exact ⟨by rw [hX]; simp only [List.append_assoc], SBF.snoc hS (by rw [List.length_append]; omega) (by omega) hp, by omega⟩
set_option maxHeartbeats 4000000 in
set_option maxRecDepth 100000 in
theorem stableN_is (b cap N : Nat) (X : List EV) (w : World) (hN : X.length = N) (hR : RowN w b X) (hlen : N ≤ 1152921504606846976) :
    Calls Tryd.prog 44 #[.slice (some ⟨b, 0, none⟩) N cap, .int .i64 N, cmpG 23] w fun e w' => e = .returned (.tuple #[]) ∧ (∃ M, RowN w' b M ∧ StableOf ltEL X M) ∧ w.grownBy w' (some b) := by
  have HN := hid hN
  clear hN
  unfold cmpG
  go_enter Tryd.func44, Tryd.ntmps44
  go_wp2_with fail
  go_loopw [7, 8] (fun av cv wr => ∃ (a c : Nat) (XD XR D : List EV), av = .int .i64 a ∧ cv = .int .i64 c ∧ a ≤ N ∧ Hid (c = a + 20) ∧ Hid (a = D.length) ∧ Hid (X = XD ++ XR) ∧ Hid (SBF ltEL 20 XD D) ∧ RowN wr b (D ++ XR) ∧ w.grownBy wr (some b)) (fun av _ _ => N - (intOf av).toNat)
  case atStart => exact ⟨0, 20, [], X, [], rfl, rfl, by omega, hid rfl, hid rfl, hid rfl, hid SBF.nil, hR, World.grownBy.refl _ _⟩
  case round =>
    obtain ⟨a, c, XD, XR, D, rfl, rfl, haN, HC, HA, HX, HS, hr, hg⟩ := hrel
    have HXL : Hid (N = a + XR.length) := hid (by rw [← HN.out, HX.out, List.length_append, HA.out, HS.out.length])
    by_cases hcN : c ≤ N
    · have hcN' : (c : Int) ≤ (N : Int) := by omega
      have hins : ∀ w1, RowN w1 b (D ++ XR) → Calls Tryd.prog 67 #[.slice (some ⟨b, 0, none⟩) N cap, .int .i64 a, .int .i64 c, .func (.func 23) #[] #[]] w1 fun e w' => e = .returned (.tuple #[]) ∧ (∃ M, RowN w' b (D ++ M ++ XR.drop 20) ∧ StableOf ltEL (XR.take 20) M) ∧ w1.grownBy w' (some b) := fun w1 h => by
        have h1 := HXL.out
        have h2 := HC.out
        exact insertion_isN b cap N a c D (XR.take 20) (XR.drop 20) w1 (by rw [List.length_take, List.length_drop, ← HA.out]; omega) (by rw [List.append_assoc, List.take_append_drop]; exact h) HA.out (by rw [List.length_take]; omega) (by omega)
      have HFIN : Hid (∀ M, StableOf ltEL (XR.take 20) M → c = (D ++ M).length ∧ X = (XD ++ XR.take 20) ++ XR.drop 20 ∧ SBF ltEL 20 (XD ++ XR.take 20) (D ++ M)) := hid (fun M hM => by
        have h1 := HXL.out
        have h2 := HC.out
        have h3 := StableOf.length ltEL_ord hM
        have h4 : (XR.take 20).length = 20 := by rw [List.length_take]; omega
        exact ⟨by rw [List.length_append, ← HA.out]; omega, by rw [List.append_assoc, List.take_append_drop]; exact HX.out, SBF.snoc HS.out h4 (by omega) hM⟩)
      have zc : IntKind.i64.wrap ((c : Int) + 20) = (c : Int) + 20 := by rw [IntKind.wrap_i64]; omega
      have hac : a < c := by have := HC.out; omega
      go_wp2_with (go_at_call 67; refine (hins _ hr).mono ?_; rintro e w2 ⟨rfl, ⟨M, r2, s2⟩, g2⟩; clear hins hr)
      go_roundw
      case rel => exact ⟨c, c + 20, XD ++ XR.take 20, XR.drop 20, D ++ M, rfl, by go_num, hcN, hid rfl, hid (HFIN.out M s2).1, hid (HFIN.out M s2).2.1, hid (HFIN.out M s2).2.2, r2, World.grownBy.trans hg g2⟩
      case measure => simp [intOf]; omega
    · have hcN' : ¬ (c : Int) ≤ (N : Int) := by omega
      have hins : ∀ w1, RowN w1 b (D ++ XR) → Calls Tryd.prog 67 #[.slice (some ⟨b, 0, none⟩) N cap, .int .i64 a, .int .i64 N, .func (.func 23) #[] #[]] w1 fun e w' => e = .returned (.tuple #[]) ∧ (∃ M, RowN w' b (D ++ M ++ []) ∧ StableOf ltEL XR M) ∧ w1.grownBy w' (some b) := fun w1 h => by
        have h1 := HXL.out
        exact insertion_isN b cap N a N D XR [] w1 (by rw [← HA.out]; simp; omega) (by rw [List.append_nil]; exact h) HA.out h1 (by omega)
      have HFIN : Hid (∀ M, StableOf ltEL XR M → SB ltEL 20 X (D ++ M)) := hid (fun M hM => by
        have h1 := HXL.out
        have h2 := HC.out
        rw [HX.out]
        exact SB.done HS.out hM (by omega) (StableOf.length ltEL_ord hM))
      go_wp2_with (go_at_call 67; refine (hins _ hr).mono ?_; rintro e w2 ⟨rfl, ⟨M, r2, s2⟩, g2⟩; clear hins hr)
      have hg2 := World.grownBy.trans hg g2
      have hsb := hid (HFIN.out M s2)
      rw [List.append_nil] at r2
      generalize D ++ M = Y at *
      clear HC HA HX HS HXL HFIN hg g2 hcN hcN' s2
      generalize wr = wz at *
      go_loopw [6] (fun kv wr => ∃ (k : Nat) (Y : List EV), kv = .int .i64 k ∧ 20 ≤ k ∧ k ≤ 2 * N + 40 ∧ Hid (SB ltEL k X Y) ∧ RowN wr b Y ∧ w.grownBy wr (some b)) (fun kv _ => (2 * N + 40) - (intOf kv).toNat)
      case atStart => exact ⟨20, Y, rfl, by omega, by omega, hsb, r2, hg2⟩
      case round =>
        obtain ⟨k, Y, rfl, hk20, hkN, HSB, hr, hg⟩ := hrel
        by_cases hkn : k < N
        · have hkn' : (k : Int) < (N : Int) := by omega
          have z2k : IntKind.i64.wrap (2 * (k : Int)) = 2 * (k : Int) := by rw [IntKind.wrap_i64]; omega
          go_wp2_with fail
          generalize wr = wo at *
          go_loopw [7, 8] (fun av cv wi => ∃ (a c : Nat) (XD XR D R : List EV), av = .int .i64 a ∧ cv = .int .i64 c ∧ a ≤ N ∧ Hid (c = a + 2 * k) ∧ c ≤ 4 * N + 80 ∧ Hid (a = D.length) ∧ Hid (X = XD ++ XR) ∧ Hid (SBF ltEL (2 * k) XD D) ∧ Hid (SB ltEL k XR R) ∧ RowN wi b (D ++ R) ∧ w.grownBy wi (some b)) (fun av _ _ => N - (intOf av).toNat)
          case atStart => exact ⟨0, 2 * k, [], X, [], Y, rfl, by go_num, by omega, hid (by omega), by omega, hid rfl, hid rfl, hid SBF.nil, HSB, hr, hg⟩
          case round =>
            obtain ⟨a, c, XD, XR, D, R, rfl, rfl, haN, HC, hc4, HA, HX, HS, HB, hr, hg⟩ := hrel
            have HXL : Hid (N = a + XR.length) := hid (by rw [← HN.out, HX.out, List.length_append, HA.out, HS.out.length])
            obtain ⟨m, hm⟩ : ∃ m, m = a + k := ⟨_, rfl⟩
            have HM := hid hm
            have zm : IntKind.i64.wrap ((a : Int) + (k : Int)) = (m : Int) := by rw [IntKind.wrap_i64]; omega
            have hmN : m ≤ 4 * N + 80 := by omega
            clear hm
            by_cases hcN : c ≤ N
            · have hcN' : (c : Int) ≤ (N : Int) := by omega
              obtain ⟨x1, r1, X1, R1, ex1, er1, l1, m1, s1, sb1⟩ := HB.out.peel (by have := HXL.out; have := HC.out; omega) (by omega)
              obtain ⟨x2, r2, X2, R2, ex2, er2, l2, m2, s2, sb2⟩ := sb1.peel (by have h1 := HXL.out; have h2 := HC.out; rw [ex1, List.length_append] at h1; omega) (by omega)
              have HE : Hid (D ++ R = D ++ r1 ++ r2 ++ R2) := hid (by rw [er1, er2]; simp only [List.append_assoc])
              have hsym : ∀ w1, RowN w1 b (D ++ R) → Calls Tryd.prog 68 #[.slice (some ⟨b, 0, none⟩) N cap, .int .i64 a, .int .i64 m, .int .i64 c, .func (.func 23) #[] #[]] w1 fun e w' => e = .returned (.tuple #[]) ∧ (∃ M, RowN w' b (D ++ M ++ R2) ∧ StableOf ltEL (r1 ++ r2) M) ∧ w1.grownBy w' (some b) := fun w1 h => by
                have h1 := HXL.out
                have h2 := HC.out
                have h3 := sb2.length
                have h4 : XR.length = k + (k + X2.length) := by rw [ex1, ex2, List.length_append, List.length_append, l1, l2]
                exact symAllN (2 * k) b cap N a m c D r1 r2 R2 w1 (by omega) (by rw [← HA.out]; omega) (by rw [← HE.out]; exact h) HA.out (by rw [HM.out]; omega) (by rw [HM.out]; omega) (by omega) (by omega) s1.1 s2.1 hlen
              have HFIN : Hid (∀ M, StableOf ltEL (r1 ++ r2) M → c = (D ++ M).length ∧ X = (XD ++ (x1 ++ x2)) ++ X2 ∧ SBF ltEL (2 * k) (XD ++ (x1 ++ x2)) (D ++ M)) := hid (fun M hM => by
                obtain ⟨q1, q2, q3⟩ := merge_blocksN (X := X) (XR := X2) (R := R2) (by rw [HX.out, ex1, ex2]) HS.out l1 l2 s1 s2 hM
                exact ⟨by rw [List.length_append, ← HA.out, q3]; exact HC.out, q1, q2⟩)
              have HSB2 := hid sb2
              have hac : a < c := by have := HC.out; omega
              have zc : IntKind.i64.wrap ((c : Int) + 2 * (k : Int)) = (c : Int) + 2 * (k : Int) := by rw [IntKind.wrap_i64]; omega
              clear ex1 er1 l1 m1 s1 sb1 ex2 er2 l2 m2 s2 sb2 HE
              go_wp2_with (go_at_call 68; refine (hsym _ hr).mono ?_; rintro e w2 ⟨rfl, ⟨M, q2, s2⟩, g2⟩; clear hsym hr)
              go_roundw
              case rel => exact ⟨c, c + 2 * k, XD ++ (x1 ++ x2), X2, D ++ M, R2, rfl, by go_num, hcN, hid rfl, by omega, hid (HFIN.out M s2).1, hid (HFIN.out M s2).2.1, hid (HFIN.out M s2).2.2, HSB2, q2, World.grownBy.trans hg g2⟩
              case measure => simp [intOf]; omega
            · have hcN' : ¬ (c : Int) ≤ (N : Int) := by omega
              have z2 : IntKind.i64.wrap ((k : Int) * 2) = (k : Int) * 2 := by rw [IntKind.wrap_i64]; omega
              by_cases hmn : m < N
              · have hmn' : (m : Int) < (N : Int) := by omega
                obtain ⟨x1, r1, X1, R1, ex1, er1, l1, m1, s1, sb1⟩ := HB.out.peel (by have := HXL.out; have := HM.out; omega) (by omega)
                have hX1 : XR.length = k + X1.length := by rw [ex1, List.length_append, l1]
                have s2 := sb1.last (by have := HXL.out; have := HC.out; omega)
                have hl2 := sb1.length
                have HE : Hid (D ++ R = D ++ r1 ++ R1 ++ []) := hid (by rw [er1]; simp only [List.append_assoc, List.append_nil])
                have hsym : ∀ w1, RowN w1 b (D ++ R) → Calls Tryd.prog 68 #[.slice (some ⟨b, 0, none⟩) N cap, .int .i64 a, .int .i64 m, .int .i64 N, .func (.func 23) #[] #[]] w1 fun e w' => e = .returned (.tuple #[]) ∧ (∃ M, RowN w' b (D ++ M ++ []) ∧ StableOf ltEL (r1 ++ R1) M) ∧ w1.grownBy w' (some b) := fun w1 h => by
                  have h1 := HXL.out
                  have h2 := HM.out
                  exact symAllN (r1.length + R1.length) b cap N a m N D r1 R1 [] w1 (Nat.le_refl _) (by rw [← HA.out]; simp; omega) (by rw [← HE.out]; exact h) HA.out (by omega) (by omega) (by omega) (by omega) s1.1 s2.1 hlen
                have HFIN : Hid (∀ M, StableOf ltEL (r1 ++ R1) M → SB ltEL (k * 2) X (D ++ M)) := hid (fun M hM => by
                  have h1 := HXL.out
                  have h2 := HC.out
                  have hp := StableOf.pieces s1 s2 hM
                  rw [HX.out, ex1, Nat.mul_comm k 2]
                  exact SB.done HS.out hp (by rw [List.length_append]; omega) (StableOf.length ltEL_ord hp))
                clear ex1 er1 l1 m1 s1 sb1 hX1 s2 hl2 HE
                go_wp2_with (go_at_call 68; refine (hsym _ hr).mono ?_; rintro e w2 ⟨rfl, ⟨M, q2, s2⟩, g2⟩; clear hsym hr)
                rw [List.append_nil] at q2
                go_roundw
                case rel => exact ⟨k * 2, D ++ M, by go_num, by omega, by omega, hid (HFIN.out M s2), q2, World.grownBy.trans hg g2⟩
                case measure => simp [intOf]; omega
              · have hmn' : ¬ (m : Int) < (N : Int) := by omega
                have HFIN : Hid (SB ltEL (k * 2) X (D ++ R)) := hid (by
                  have h1 := HXL.out
                  have h2 := HM.out
                  have s2 := HB.out.last (by omega)
                  rw [HX.out, Nat.mul_comm k 2]
                  exact SB.done HS.out s2 (by omega) HB.out.length)
                go_wp2_with fail
                go_roundw
                case rel => exact ⟨k * 2, D ++ R, by go_num, by omega, by omega, HFIN, hr, hg⟩
                case measure => simp [intOf]; omega
        · have hkn' : ¬ (k : Int) < (N : Int) := by omega
          have HFIN : Hid (StableOf ltEL X Y) := hid (HSB.out.last (by rw [HN.out]; omega))
          go_wp2_with fail
          go_end0
          exact ⟨rfl, ⟨Y, hr, HFIN.out⟩, hg⟩
end Go.Proofs.YtaoeabnpmpimgaaDoor
end
section
namespace Go.Icz
open Go.RowKit
theorem LabAt.labW {w : World} {g : Nat} {p : EV} (h : LabAt w g p) (hl : p.1.labs.length ≤ 4611686018427387904) : LabW w g p := ⟨hl, fun w' hg => by
  obtain ⟨b0, _, h2⟩ := h.grown hg
  exact h2⟩
/-- The entries sorted, equals as they stood: a row of new memory that may be written. -/
def SortedOwn (l : List Ent) (w : World) (e : Ending) (w' : World) : Prop := Below w.heap.size w w' ∧ ((l = [] ∧ e = .returned (.slice none 0 0)) ∨ ∃ g cap M, e = .returned (.slice (some ⟨g, 0, none⟩) M.length cap) ∧ M.length ≤ cap ∧ w.heap.size ≤ g ∧ RowE w' g M ∧ (∀ p ∈ M, LabAt w' g p) ∧ StableOf ltT l (M.map (·.1)) ∧ (M.map (·.1)).length = l.length)
end Go.Icz
namespace Go.Proofs.YtaoeabnpmpimgaaDoor
open Go.RowKit Go.Icz
set_option maxHeartbeats 4000000 in
set_option maxRecDepth 100000 in
theorem RSortO_is (v : Value) (l : List Ent) (w : World) (hR : RdE w v l) (hz : ∀ x ∈ l, entZ x) (hlen : l.length * 56 ≤ 140737488351232) :
    Calls Tryd.prog 20 #[v] w (SortedOwn l w) := by
  obtain ⟨X, hX, hV, hL⟩ := hR.places
  have hXl : X.length = l.length := by rw [← hX, List.length_map]
  have hV' := hV
  obtain ⟨A, c, rfl, hlc, hcell⟩ := hV'
  have HZ : Hid (∀ x ∈ l, entZ x) := hid hz
  clear hz hR
  rcases A with _ | ad
  · have hl : X = [] := by
      rcases Nat.eq_zero_or_pos X.length with h0 | h0
      · exact List.eq_nil_of_length_eq_zero h0
      · obtain ⟨b, off, e, _⟩ := hcell h0
        cases e
    subst hl
    have hl0 : l = [] := by rw [← hX]; rfl
    subst hl0
    have hC := fun w1 => AnyE.slices_Clone_nil Tryd.cloneE 0 c w1
    have hC2 : ∀ w1, Calls Tryd.prog 41 #[.slice none 0 c] w1 fun e w' => e = .returned (.slice none 0 0) ∧ w' = w1 := hC
    have hS := fun w1 => sortStable_none 43 w1
    unfold cmpF at hS
    clear hC hX hV hL hXl hcell HZ hlen
    go_enter Tryd.func20, Tryd.ntmps20
    go_wp2_with (first
      | (go_at_call 41; refine (hC2 _).mono ?_; rintro e w1 ⟨rfl, rfl⟩; clear hC2)
      | fail)
    have hb0 : Below w.heap.size w (w.alloc (.cells #[] 81)) := (Below.refl _ w).alloc (Nat.le_refl _) _
    go_loopw [10] (fun iv wr => iv = .int .i64 0 ∧ Below w.heap.size w wr) (fun _ _ => 0)
    case atStart => exact ⟨rfl, hb0⟩
    case round =>
      obtain ⟨rfl, hb⟩ := hrel
      go_wp2_with (first
        | (go_at_call 22; refine (hS _).mono ?_; rintro e w2 ⟨rfl, b2⟩; clear hS)
        | fail)
      go_ret
      exact ⟨hb.trans (b2.mono hb.size), .inl ⟨rfl, rfl⟩⟩
  · clear hcell
    have hV1 := fun o => hV.below ((Below.refl _ w).alloc (Nat.le_refl _) o)
    have hC := fun w1 (h : RdV w1 (.slice (some ad) X.length c) X) => cloneE_some ad c X w1 h (by omega)
    have HL := hid hL
    have HX := hid hX
    clear hV hL hX
    obtain ⟨n, hn⟩ : ∃ n, n = X.length := ⟨_, rfl⟩
    have HNX := hid hn
    have hn60 : n ≤ 1152921504606846976 := by omega
    have HLN : Hid (n = l.length) := hid (by omega)
    rw [← hn] at hC hV1 hlc ⊢
    clear hn hXl hlen
    go_enter Tryd.func20, Tryd.ntmps20
    go_wp2_with (first
      | (go_at_call 41; refine (hC _ (hV1 _)).mono ?_; rintro e w1 ⟨g, cap, rfl, b1, hnc, hg, r1⟩; clear hC hV1)
      | fail)
    have hb1 : Below w.heap.size w w1 := below_allocT (Nat.le_refl _) (b1.mono (by simp))
    have hgw : w.heap.size < g := by simp at hg; omega
    clear b1 hg
    go_loopw [10] (fun iv wr => ∃ (i : Nat) (Y : List EV), iv = .int .i64 i ∧ i ≤ n ∧ RowE wr g Y ∧ Hid (Y.map (·.1) = l) ∧ Hid (Y.length = n) ∧ Hid (∀ p ∈ Y, LabAt wr g p) ∧ Below w.heap.size w wr) (fun iv _ => n - (intOf iv).toNat)
    case atStart => exact ⟨0, X, rfl, by omega, r1, HX, hid HNX.out.symm, hid (fun p hp => (RdL.labAt (HL.out p hp) (by omega)).below hb1), hb1⟩
    case round =>
      obtain ⟨i, Y, rfl, hi, hr, HY, HYL, HLA, hbw⟩ := hrel
      by_cases hlt : i < n
      · have hlt' : (i : Int) < (n : Int) := by omega
        have hil : i < Y.length := by have := HYL.out; omega
        obtain ⟨c0, c1, c2, c3, f0, f1, f2, f3⟩ := hr.2 i hil
        obtain ⟨b0, hb0, hrl⟩ := HLA.out Y[i] (List.getElem_mem hil)
        have hxz := HZ.out (Y[i]).1 (by rw [← HY.out]; exact List.mem_map.2 ⟨_, List.getElem_mem hil, rfl⟩)
        have hcl := fun w2 (h : RdL w2 (.slice (Y[i]).2.1 (Y[i]).1.labs.length (Y[i]).2.2) (Y[i]).1.labs) => cloneLb_is _ (Y[i]).1.labs w2 h (by have := hxz.1; omega)
        have hgz := hr.1
        have HP : Hid (∀ w2 A' c', Below wr.heap.size wr w2 → RdL w2 (.slice A' (Y[i]).1.labs.length c') (Y[i]).1.labs → (0 < (Y[i]).1.labs.length → ∃ b off, A' = some ⟨b, off, none⟩ ∧ wr.heap.size ≤ b) →
            RowE (w2.setCell ⟨g, i * 4 + 2, none⟩ (.slice A' (Y[i]).1.labs.length c')) g (Y.set i ((Y[i]).1, A', c')) ∧ (Y.set i ((Y[i]).1, A', c')).map (·.1) = l ∧ (Y.set i ((Y[i]).1, A', c')).length = n ∧ (∀ p ∈ Y.set i ((Y[i]).1, A', c'), LabAt (w2.setCell ⟨g, i * 4 + 2, none⟩ (.slice A' (Y[i]).1.labs.length c')) g p)) := hid (fun w2 A' c' b2 r2 h2 => by
          refine ⟨(hr.below b2).putLab i hil A' c', ?_, by rw [List.length_set]; exact HYL.out, fun p hp => ?_⟩
          · rw [List.map_set]
            have : (Y.map (·.1)).set i (Y[i]).1 = Y.map (·.1) := by
              have h9 : (Y[i]).1 = (Y.map (·.1))[i]'(by rw [List.length_map]; exact hil) := by simp
              rw [h9]
              exact List.set_getElem_self _
            exact this.trans HY.out
          · refine LabAt.grown ?_ (grown_set _ _ _ _)
            rcases List.mem_or_eq_of_mem_set hp with hp | rfl
            · exact (HLA.out p hp).below b2
            · rcases Nat.eq_zero_or_pos (Y[i]).1.labs.length with h0 | h0
              · exact ⟨0, fun h1 => absurd h1 (by simp only; omega), r2⟩
              · obtain ⟨b, off, hA, hbz⟩ := h2 h0
                exact ⟨b, fun _ => ⟨by omega, off, hA⟩, r2⟩)
        have K : ∀ w2, Below wr.heap.size wr w2 → w2.cell? ⟨g, i * 4 + 2, none⟩ = some (.slice (Y[i]).2.1 (Y[i]).1.labs.length (Y[i]).2.2) ∧ w2.frozen? ⟨g, i * 4 + 2, none⟩ = false := fun w2 h => ⟨(h.cell (p := ⟨g, i * 4 + 2, none⟩) hgz).trans c2, (h.frozen (p := ⟨g, i * 4 + 2, none⟩) hgz).trans f2⟩
        clear c0 c1 c3 f0 f1 f2 f3 hb0 hxz hr HLA HY HYL
        generalize Y[i] = y at *
        clear hil
        obtain ⟨x, Ax, cx⟩ := y
        simp only at *
        go_wp2_with (first
          | (go_at_call 42; refine (hcl _ hrl).mono ?_; rintro e w2 ⟨A2, c2', rfl, b2, r2, h2⟩; obtain ⟨k2, k3⟩ := K _ b2; have HP2 := hid (HP.out _ _ _ b2 r2 h2); have hb2 := (hbw.trans (b2.mono hbw.size)); clear hcl hrl K HP c2 r2 h2)
          | fail)
        go_roundw
        case rel => exact ⟨i + 1, Y.set i (x, A2, c2'), by go_num, by omega, HP2.out.1, hid HP2.out.2.1, hid HP2.out.2.2.1, hid HP2.out.2.2.2, hb2.setCell (show w.heap.size ≤ g by omega) _⟩
        case measure => simp [intOf]; omega
      · have hge : ¬ (i : Int) < (n : Int) := by omega
        have hS := fun w2 (h : RowE w2 g Y) => sortStable_is g cap n Y w2 HYL.out h hn60
        unfold cmpF at hS
        have HF : Hid (∀ w2 M, RowE w2 g M → StableOf ltE Y M → wr.grownBy w2 (some g) → (∀ p ∈ M, LabAt w2 g p) ∧ StableOf ltT l (M.map (·.1)) ∧ (M.map (·.1)).length = l.length ∧ n = M.length) := hid (fun w2 M r2 s2 g2 => by
          have hml := StableOf.length ltE_ord s2
          have e1 : M.length = n := by rw [hml]; exact HYL.out
          have h2 := stable_map s2
          rw [HY.out] at h2
          exact ⟨fun p hp => (HLA.out p ((s2.mem ltE_ord).1 hp)).grown g2, h2, by rw [List.length_map, e1]; exact HLN.out, e1.symm⟩)
        have hgz := hr.1
        clear HY HYL HLA
        go_wp2_with (first
          | (go_at_call 22; refine (hS _ hr).mono ?_; rintro e w2 ⟨rfl, ⟨M, r2, s2⟩, g2⟩; clear hS hr)
          | fail)
        go_ret
        obtain ⟨k1, k2, k3, k4⟩ := HF.out _ _ r2 s2 g2
        exact ⟨hbw.grown g2 hbw.size (fun k hk => by injection hk with hk; omega), .inr ⟨g, cap, M, (by rw [k4]; rfl), by rw [← k4]; exact hnc, by omega, r2, k1, k2, k3⟩⟩
set_option maxHeartbeats 1000000 in
set_option maxRecDepth 100000 in
theorem stableN_none (f : Nat) (w : World) : Calls Tryd.prog 44 #[.slice none 0 0, .int .i64 0, cmpG f] w fun e w' => e = .returned (.tuple #[]) ∧ Below w.heap.size w w' := by
  unfold cmpG
  go_enter Tryd.func44, Tryd.ntmps44
  go_wp2_with fail
  go_loopw [7, 8] (fun av cv wr => av = .int .i64 0 ∧ cv = .int .i64 20 ∧ Below w.heap.size w wr) (fun _ _ _ => 0)
  case atStart => exact ⟨rfl, rfl, Below.refl _ _⟩
  case round =>
    obtain ⟨rfl, rfl, hb⟩ := hrel
    go_wp2_with (go_at_call 67; refine (insertion_none _ _).mono ?_; rintro e w2 ⟨rfl, b2⟩; have hb2 := hb.trans (b2.mono hb.size))
    generalize wr = wz at *
    go_loopw [6] (fun kv wr => kv = .int .i64 20 ∧ Below w.heap.size w wr) (fun _ _ => 0)
    case atStart => exact ⟨rfl, hb2⟩
    case round =>
      obtain ⟨rfl, hb⟩ := hrel
      go_wp2_with fail
      go_end0
      exact ⟨rfl, hb⟩
set_option maxRecDepth 100000 in
theorem sortStableN_is (b cap N : Nat) (X : List EV) (w : World) (hN : X.length = N) (hR : RowN w b X) (hlen : N ≤ 1152921504606846976) :
    Calls Tryd.prog 22 #[.slice (some ⟨b, 0, none⟩) N cap, cmpG 23] w fun e w' => e = .returned (.tuple #[]) ∧ (∃ M, RowN w' b M ∧ StableOf ltEL X M) ∧ w.grownBy w' (some b) := by
  have h := stableN_is b cap N X w hN hR hlen
  unfold cmpG at h ⊢
  have HN := hid hN
  clear hN
  go_enter Tryd.func22, Tryd.ntmps22
  go_wp2_with (go_at_call 44; refine h.mono ?_; rintro e w2 ⟨rfl, h2⟩)
  go_end0
  exact ⟨rfl, h2⟩
set_option maxRecDepth 100000 in
theorem sortStableN_none (f : Nat) (w : World) : Calls Tryd.prog 22 #[.slice none 0 0, cmpG f] w fun e w' => e = .returned (.tuple #[]) ∧ Below w.heap.size w w' := by
  have h := stableN_none f w
  unfold cmpG at h ⊢
  go_enter Tryd.func22, Tryd.ntmps22
  go_wp2_with (go_at_call 44; refine h.mono ?_; rintro e w2 ⟨rfl, h2⟩)
  go_end0
  exact ⟨rfl, h2⟩
end Go.Proofs.YtaoeabnpmpimgaaDoor
end
