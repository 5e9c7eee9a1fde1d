/-
  What slices.insertionSortCmpFunc does to a row of entries. Conditions: those that the theorem names.
-/
import Derived.Test.YtcdfjkhjdiojbaaDoorSrot
import Derived.Deep.RegionHeld3
namespace Go.Icz
open Go.RowKit
/-- The order of entries, of what lies in a row. -/
def ltE (x y : EV) : Bool := decide (cmpE x.1 y.1 < 0)
theorem icmp_cases (a b : Int) : (icmp a b = -1 ∧ a < b) ∨ (icmp a b = 0 ∧ a = b) ∨ (icmp a b = 1 ∧ b < a) := by
  unfold icmp
  split
  · left; exact ⟨rfl, by assumption⟩
  · split
    · right; right; exact ⟨rfl, by assumption⟩
    · right; left; exact ⟨rfl, by omega⟩
theorem ltE_iff (x y : EV) : ltE x y = true ↔ x.1.time < y.1.time ∨ (x.1.time = y.1.time ∧ x.1.seq < y.1.seq) := by
  unfold ltE cmpE or2
  rcases icmp_cases x.1.time y.1.time with ⟨h, h2⟩ | ⟨h, h2⟩ | ⟨h, h2⟩
  · rw [h]; simp; omega
  · rw [h]
    rcases icmp_cases x.1.seq y.1.seq with ⟨g, g2⟩ | ⟨g, g2⟩ | ⟨g, g2⟩
    · rw [g]; simp; omega
    · rw [g]; simp; omega
    · rw [g]; simp; omega
  · rw [h]; simp; omega
theorem ltE_false (x y : EV) : ltE x y = false ↔ ¬ (x.1.time < y.1.time ∨ (x.1.time = y.1.time ∧ x.1.seq < y.1.seq)) := by
  rw [← ltE_iff]; simp
theorem ltE_ord : SWOrd ltE := by
  refine ⟨fun x y h => ?_, fun x y z h => ?_⟩
  · rw [ltE_iff] at h
    rw [ltE_false]
    omega
  · rw [ltE_iff] at h
    rw [ltE_iff, ltE_iff]
    omega
theorem below_grown {w w' : World} (h : Below w.heap.size w w') (row : Option Nat) : w.grownBy w' row := ⟨h.os, h.tape, h.output, h.size, fun k hk _ => h.block k hk⟩
/-- The inner loop has come to its place. -/
theorem StableOf.placed {M1 M2 : List EV} {x : EV} {X : List EV} (hM : StableOf ltE X (M1 ++ M2)) (h2 : ∀ y ∈ M2, ltE x y = true) (h1 : ∀ M0 y, M1 = M0 ++ [y] → ltE x y = false) : StableOf ltE (X ++ [x]) (M1 ++ x :: M2) := by
  have hs := hM.1
  have h3 : ∀ z ∈ M1, ltE x z = false := by
    rcases List.eq_nil_or_concat M1 with rfl | ⟨M0, y, rfl⟩
    · simp
    · have hy := h1 M0 y (by simp)
      intro z hz
      have hs1 := (SortedL.append_iff.1 hs).1
      rw [List.concat_eq_append] at hs1 hz
      have h4 := (SortedL.append_iff.1 hs1).2.2
      rcases List.mem_append.1 hz with hz | hz
      · exact SWOrd.le_trans ltE_ord (h4 z hz y (by simp)) hy
      · obtain rfl := List.mem_singleton.1 hz
        exact hy
  exact StableOf.trans ⟨hM.1, hM.2⟩ (StableOf.refl hM.1) |> fun _ => (StableOf.pieces hM (StableOf.refl (List.pairwise_singleton _ _)) (StableOf.last ltE_ord hs h3 h2))
theorem RowE.at {w : World} {b : Nat} {l : List EV} (h : RowE w b l) {k : Nat} {x : EV} (hk : l[k]? = some x) : w.cell? ⟨b, k * 4, none⟩ = some (.int .i64 x.1.seq) ∧ w.cell? ⟨b, k * 4 + 1, none⟩ = some (.int .i64 x.1.time) ∧ w.cell? ⟨b, k * 4 + 2, none⟩ = some (.slice x.2.1 x.1.labs.length x.2.2) ∧ w.cell? ⟨b, k * 4 + 3, none⟩ = some (.string ⟨x.1.line.toArray⟩) ∧
    w.frozen? ⟨b, k * 4, none⟩ = false ∧ w.frozen? ⟨b, k * 4 + 1, none⟩ = false ∧ w.frozen? ⟨b, k * 4 + 2, none⟩ = false ∧ w.frozen? ⟨b, k * 4 + 3, none⟩ = false := by
  obtain ⟨hlt, e⟩ := List.getElem?_eq_some_iff.1 hk
  rw [← e]
  exact h.2 k hlt
end Go.Icz
namespace Go.Proofs.YtcdfjkhjdiojbaaDoor
open Go.RowKit Go.Icz
theorem set_two (P R : List EV) (x y : EV) : ((P ++ y :: x :: R).set (P.length + 1) y).set P.length x = P ++ x :: y :: R := by
  rw [List.set_append_right _ _ (by omega), List.set_append_right _ _ (by omega)]
  simp
theorem cmp_call (x y : EV) (w : World) : Calls Tryd.prog 28 #[.agg #[], .agg #[.int .i64 x.1.seq, .int .i64 x.1.time, .slice x.2.1 x.1.labs.length x.2.2, .string ⟨x.1.line.toArray⟩], .agg #[.int .i64 y.1.seq, .int .i64 y.1.time, .slice y.2.1 y.1.labs.length y.2.2, .string ⟨y.1.line.toArray⟩]] w fun e w' => e = .returned (.int .i64 (cmpE x.1 y.1)) ∧ Below w.heap.size w w' :=
  compare_is x.1 y.1 x.2.1 y.2.1 x.2.2 y.2.2 w
set_option maxHeartbeats 2000000 in
set_option maxRecDepth 100000 in
theorem insertion_is (b cap N a c : Nat) (A X B : List EV) (w : World) (hN : A.length + X.length + B.length = N) (hR : RowE w b (A ++ X ++ B)) (ha : a = A.length) (hc : c = a + X.length) (hlen : N ≤ 4611686018427387904) :
    Calls Tryd.prog 72 #[.slice (some ⟨b, 0, none⟩) N cap, .int .i64 a, .int .i64 c, cmpF 28] w fun e w' => e = .returned (.tuple #[]) ∧ (∃ M, RowE w' b (A ++ M ++ B) ∧ StableOf ltE X M) ∧ w.grownBy w' (some b) := by
  have HN := hid hN
  have HA := hid ha
  have HC := hid hc
  have hcN : c ≤ N := by omega
  have hac : a ≤ c := by omega
  clear hN ha hc
  unfold cmpF
  go_enter Tryd.func72, Tryd.ntmps72
  go_wp2
  go_loopw [8] (fun iv wr => ∃ (t : Nat) (M : List EV), iv = .int .i64 ((a : Int) + (t : Int)) ∧ 1 ≤ t ∧ t ≤ N + 1 ∧ RowE wr b (A ++ M ++ X.drop t ++ B) ∧ Hid (StableOf ltE (X.take t) M) ∧ Hid (M.length = min t X.length) ∧ Hid (t ≤ X.length ∨ t = 1) ∧ w.grownBy wr (some b)) (fun iv _ => (c + 1) - (intOf iv).toNat)
  case atStart =>
    refine ⟨1, X.take 1, by go_num, by omega, by omega, by rw [List.append_assoc A (X.take 1), List.take_append_drop]; exact hR, hid (StableOf.refl ?_), hid (by simp), hid (.inr rfl), World.grownBy.refl _ _⟩
    cases X with
    | nil => exact List.Pairwise.nil
    | cons x r => exact List.pairwise_singleton _ _
  case round =>
    obtain ⟨t, M, rfl, ht1, htN, hr, HM, HL, HT, hg⟩ := hrel
    by_cases hlt : t < X.length
    · have hltz : (a : Int) + (t : Int) < (c : Int) := by have := HC.out; omega
      have hil : a + t < N := by have := HC.out; omega
      have hr2 : RowE wr b (A ++ M ++ X[t] :: X.drop (t + 1) ++ B) := by rw [List.drop_eq_getElem_cons hlt] at hr; exact hr
      have HX : Hid (X.take (t + 1) = X.take t ++ [X[t]]) := hid (List.take_succ_eq_append_getElem hlt)
      have HL2 : Hid (M.length = t) := hid (by have := HL.out; omega)
      have HLT := hid hlt
      generalize X[t] = x at *
      clear hr hlt HT HL
      generalize hD : X.drop (t + 1) = D at *
      have HD := hid hD
      clear hD
      go_wp2
      generalize wr = wo at *
      go_loopw [9] (fun jv wi => ∃ (j : Nat) (M1 M2 : List EV), jv = .int .i64 (j : Int) ∧ Hid (j = a + M1.length) ∧ j ≤ a + t ∧ a ≤ j ∧ Hid (M = M1 ++ M2) ∧ Hid (∀ y ∈ M2, ltE x y = true) ∧ RowE wi b (A ++ M1 ++ x :: M2 ++ D ++ B) ∧ w.grownBy wi (some b)) (fun jv _ => (intOf jv).toNat)
      case atStart => exact ⟨a + t, M, [], by go_num, hid (by rw [HL2.out]), by omega, by omega, hid (by simp), hid (by simp), by simpa using hr2, hg⟩
      case round =>
        obtain ⟨j, M1, M2, rfl, HJ, hjt, haj, HM2, HY, hr3, hg3⟩ := hrel
        generalize wr = wi at *
        have placed : (∀ M0 y, M1 = M0 ++ [y] → ltE x y = false) → ∀ wz, RowE wz b (A ++ M1 ++ x :: M2 ++ D ++ B) → RowE wz b (A ++ (M1 ++ x :: M2) ++ X.drop (t + 1) ++ B) ∧ Hid (StableOf ltE (X.take (t + 1)) (M1 ++ x :: M2)) ∧ Hid ((M1 ++ x :: M2).length = min (t + 1) X.length) := fun h wz hz => by
          refine ⟨by rw [HD.out]; simpa only [List.append_assoc, List.cons_append] using hz, hid (by rw [HX.out]; exact StableOf.placed (by rw [← HM2.out]; exact HM.out) HY.out h), hid ?_⟩
          have h1 := HL2.out
          have h2 := HLT.out
          rw [HM2.out] at h1
          simp only [List.length_append, List.length_cons] at h1 ⊢
          omega
        rcases List.eq_nil_or_concat M1 with hnil | ⟨M0, y, hcon⟩
        · have PL := placed (fun M0 y e => by rw [hnil] at e; simp at e)
          have hja : ¬ (a : Int) < (j : Int) := by have := HJ.out; rw [hnil] at this; simp at this; omega
          have hja2 : decide ((a : Int) < (j : Int)) = false := decide_eq_false hja
          have AP : Hid _ := hid placed
          clear placed hnil
          go_wp2_with fail
          refine wp_region_held_drew (S := fun _ => True) (by kernel_rfl) True.intro (fun hHeld => ?_)
          refine takeAt (i := 0) (d := 18) (v := .int .i64 (j : Int)) rfl rfl (by kernel_rfl) (by kernel_rfl) (by kernel_rfl) (fun _ _ _ h => h) (Or.inl ⟨by rfl, fun w hSw => by go_simp⟩) hHeld ?_
          simp only [List.setIfInBounds_toArray, List.set_cons_zero, List.set_cons_succ]
          refine takeAt (i := 1) (d := 19) (v := .int .i64 (a : Int)) rfl rfl (by kernel_rfl) (by kernel_rfl) (by kernel_rfl) (fun _ _ _ h => h) (Or.inl ⟨by rfl, fun w hSw => by go_simp⟩) hHeld ?_
          simp only [List.setIfInBounds_toArray, List.set_cons_zero, List.set_cons_succ]
          refine takeAt (i := 2) (d := 20) (v := .bool false) rfl rfl (by kernel_rfl) (by kernel_rfl) (by kernel_rfl) (fun _ _ _ h => h) (Or.inl ⟨by rfl, fun w hSw => by go_simp; first | done | exact hja2 | exact hja | omega | (simp; omega)⟩) hHeld ?_
          simp only [List.setIfInBounds_toArray, List.set_cons_zero, List.set_cons_succ]
          refine takeAt (i := 3) (d := 21) (v := .bool false) rfl rfl (by kernel_rfl) (by kernel_rfl) (by kernel_rfl) (fun _ _ _ h => h) (Or.inl ⟨by rfl, fun w hSw => by go_simp⟩) hHeld ?_
          simp only [List.setIfInBounds_toArray, List.set_cons_zero, List.set_cons_succ]
          refine takeAt (i := 4) (d := 22) (v := undef) rfl rfl (by kernel_rfl) (by kernel_rfl) (by kernel_rfl) (fun _ _ _ h => h) (Or.inr ⟨by rfl, rfl⟩) hHeld ?_
          simp only [List.setIfInBounds_toArray, List.set_cons_zero, List.set_cons_succ]
          refine takeAt (i := 5) (d := 23) (v := undef) rfl rfl (by kernel_rfl) (by kernel_rfl) (by kernel_rfl) (fun _ _ _ h => h) (Or.inr ⟨by rfl, rfl⟩) hHeld ?_
          simp only [List.setIfInBounds_toArray, List.set_cons_zero, List.set_cons_succ]
          refine takeAt (i := 6) (d := 24) (v := undef) rfl rfl (by kernel_rfl) (by kernel_rfl) (by kernel_rfl) (fun _ _ _ h => h) (Or.inr ⟨by rfl, rfl⟩) hHeld ?_
          simp only [List.setIfInBounds_toArray, List.set_cons_zero, List.set_cons_succ]
          refine takeAt (i := 7) (d := 25) (v := undef) rfl rfl (by kernel_rfl) (by kernel_rfl) (by kernel_rfl) (fun _ _ _ h => h) (Or.inr ⟨by rfl, rfl⟩) hHeld ?_
          simp only [List.setIfInBounds_toArray, List.set_cons_zero, List.set_cons_succ]
          refine takeAt (i := 8) (d := 26) (v := undef) rfl rfl (by kernel_rfl) (by kernel_rfl) (by kernel_rfl) (fun _ _ _ h => h) (Or.inr ⟨by rfl, rfl⟩) hHeld ?_
          simp only [List.setIfInBounds_toArray, List.set_cons_zero, List.set_cons_succ]
          refine takeAt (i := 9) (d := 27) (v := undef) rfl rfl (by kernel_rfl) (by kernel_rfl) (by kernel_rfl) (fun _ _ _ h => h) (Or.inr ⟨by rfl, rfl⟩) hHeld ?_
          simp only [List.setIfInBounds_toArray, List.set_cons_zero, List.set_cons_succ]
          refine takeAt (i := 10) (d := 28) (v := undef) rfl rfl (by kernel_rfl) (by kernel_rfl) (by kernel_rfl) (fun _ _ _ h => h) (Or.inr ⟨by rfl, rfl⟩) hHeld ?_
          simp only [List.setIfInBounds_toArray, List.set_cons_zero, List.set_cons_succ]
          refine takeAt (i := 11) (d := 29) (v := undef) rfl rfl (by kernel_rfl) (by kernel_rfl) (by kernel_rfl) (fun _ _ _ h => h) (Or.inr ⟨by rfl, rfl⟩) hHeld ?_
          simp only [List.setIfInBounds_toArray, List.set_cons_zero, List.set_cons_succ]
          refine takeAt (i := 12) (d := 30) (v := undef) rfl rfl (by kernel_rfl) (by kernel_rfl) (by kernel_rfl) (fun _ _ _ h => h) (Or.inr ⟨by rfl, rfl⟩) hHeld ?_
          simp only [List.setIfInBounds_toArray, List.set_cons_zero, List.set_cons_succ]
          refine takeAt (i := 13) (d := 31) (v := undef) rfl rfl (by kernel_rfl) (by kernel_rfl) (by kernel_rfl) (fun _ _ _ h => h) (Or.inr ⟨by rfl, rfl⟩) hHeld ?_
          simp only [List.setIfInBounds_toArray, List.set_cons_zero, List.set_cons_succ]
          refine takeAt (i := 14) (d := 32) (v := undef) rfl rfl (by kernel_rfl) (by kernel_rfl) (by kernel_rfl) (fun _ _ _ h => h) (Or.inr ⟨by rfl, rfl⟩) hHeld ?_
          simp only [List.setIfInBounds_toArray, List.set_cons_zero, List.set_cons_succ]
          refine takeAt (i := 15) (d := 33) (v := undef) rfl rfl (by kernel_rfl) (by kernel_rfl) (by kernel_rfl) (fun _ _ _ h => h) (Or.inr ⟨by rfl, rfl⟩) hHeld ?_
          simp only [List.setIfInBounds_toArray, List.set_cons_zero, List.set_cons_succ]
          refine takeAt (i := 16) (d := 34) (v := .bool false) rfl rfl (by kernel_rfl) (by kernel_rfl) (by kernel_rfl) (fun _ _ _ h => h) (Or.inl ⟨by rfl, fun w hSw => by go_simp⟩) hHeld ?_
          simp only [List.setIfInBounds_toArray, List.set_cons_zero, List.set_cons_succ]
          refine wpAnyH_done (by kernel_rfl) ?_ _
          go_wp2_with fail
          go_roundw
          obtain ⟨p1, p2, p3⟩ := PL _ (row_drew hr3)
          case rel => exact ⟨t + 1, M1 ++ x :: M2, by go_num, by omega, by omega, p1, p2, p3, hid (.inl (by have := HLT.out; omega)), World.grownBy.trans hg3 (grown_drew1 _ _)⟩
          case measure => simp [intOf]; omega
        · rw [List.concat_eq_append] at hcon
          subst hcon
          obtain ⟨jp, hjp⟩ : ∃ jp, jp = a + M0.length := ⟨_, rfl⟩
          have hj2 : j = jp + 1 := by have := HJ.out; simp only [List.length_append, List.length_singleton] at this; omega
          subst hj2
          have g1 : (A ++ (M0 ++ [y]) ++ x :: M2 ++ D ++ B)[jp + 1]? = some x := by
            rw [hjp, HA.out]
            simp only [List.append_assoc, List.cons_append, List.nil_append]
            rw [List.getElem?_append_right (by omega), List.getElem?_append_right (by omega), show A.length + M0.length + 1 - A.length - M0.length = 1 by omega]
            rfl
          have g0 : (A ++ (M0 ++ [y]) ++ x :: M2 ++ D ++ B)[jp]? = some y := by
            rw [hjp, HA.out]
            simp only [List.append_assoc, List.cons_append, List.nil_append]
            rw [List.getElem?_append_right (by omega), List.getElem?_append_right (by omega), show A.length + M0.length - A.length - M0.length = 0 by omega]
            rfl
          obtain ⟨x0, x1, x2, x3, xf0, xf1, xf2, xf3⟩ := hr3.at g1
          obtain ⟨y0, y1, y2, y3, yf0, yf1, yf2, yf3⟩ := hr3.at g0
          have hbz := hr3.1
          have mkS : ∀ w', Below wi.heap.size wi w' → Below wi.heap.size wi w' ∧ w'.cell? ⟨b, (jp + 1) * 4, none⟩ = some (.int .i64 x.1.seq) ∧ w'.cell? ⟨b, (jp + 1) * 4 + 1, none⟩ = some (.int .i64 x.1.time) ∧ w'.cell? ⟨b, (jp + 1) * 4 + 2, none⟩ = some (.slice x.2.1 x.1.labs.length x.2.2) ∧ w'.cell? ⟨b, (jp + 1) * 4 + 3, none⟩ = some (.string ⟨x.1.line.toArray⟩) ∧ w'.cell? ⟨b, jp * 4, none⟩ = some (.int .i64 y.1.seq) ∧ w'.cell? ⟨b, jp * 4 + 1, none⟩ = some (.int .i64 y.1.time) ∧ w'.cell? ⟨b, jp * 4 + 2, none⟩ = some (.slice y.2.1 y.1.labs.length y.2.2) ∧ w'.cell? ⟨b, jp * 4 + 3, none⟩ = some (.string ⟨y.1.line.toArray⟩) := fun w' h =>
            ⟨h, (h.cell (p := ⟨b, (jp + 1) * 4, none⟩) hbz).trans x0, (h.cell (p := ⟨b, (jp + 1) * 4 + 1, none⟩) hbz).trans x1, (h.cell (p := ⟨b, (jp + 1) * 4 + 2, none⟩) hbz).trans x2, (h.cell (p := ⟨b, (jp + 1) * 4 + 3, none⟩) hbz).trans x3,
              (h.cell (p := ⟨b, jp * 4, none⟩) hbz).trans y0, (h.cell (p := ⟨b, jp * 4 + 1, none⟩) hbz).trans y1, (h.cell (p := ⟨b, jp * 4 + 2, none⟩) hbz).trans y2, (h.cell (p := ⟨b, jp * 4 + 3, none⟩) hbz).trans y3⟩
          have hk := mkS wi.drew (Below.refl _ _).drew
          have HC2 := fun w1 => cmp_call x y w1
          have hja : (a : Int) < (jp : Int) + 1 := by omega
          have zj : IntKind.i64.wrap (jp : Int) = (jp : Int) := by rw [IntKind.wrap_i64]; omega
          have zj0 : (0 : Int) ≤ (jp : Int) + 1 := by omega
          have zjl : (jp : Int) + 1 < (N : Int) := by omega
          have zjl2 : (jp : Int) < (N : Int) := by omega
          have zjn : ((jp : Int) + 1).toNat = jp + 1 := by omega
          have HG1 := hid g1
          have HG0 := hid g0
          have PLF : ltE x y = false → _ := fun hf => placed (fun M0' y' e => by
            have e2 := List.append_inj_right' e rfl
            injection e2 with e3 _
            rw [← e3]
            exact hf)
          have hset : Hid (((A ++ (M0 ++ [y]) ++ x :: M2 ++ D ++ B).set (jp + 1) y).set jp x = A ++ M0 ++ x :: (y :: M2) ++ D ++ B) := hid (by
            have h9 := set_two (A ++ M0) (M2 ++ D ++ B) x y
            rw [List.length_append, ← HA.out, ← hjp] at h9
            simpa only [List.append_assoc, List.cons_append, List.nil_append] using h9)
          have hk1 : Hid (jp + 1 < (A ++ (M0 ++ [y]) ++ x :: M2 ++ D ++ B).length) := hid (List.getElem?_eq_some_iff.1 g1).1
          have hlx : Hid (ltE x y = decide (cmpE x.1 y.1 < 0)) := hid rfl
          have AR := hid hr3
          have HJP := hid hjp
          clear placed g1 g0 x0 x1 x2 x3 y0 y1 y2 y3 hr3 hjp
          generalize hcv : cmpE x.1 y.1 = cv at *
          by_cases hlt0 : cv < 0
          · go_wp2_with fail
            go_region_held3 (fun w' => Below wi.heap.size wi w' ∧ w'.cell? ⟨b, (jp + 1) * 4, none⟩ = some (.int .i64 x.1.seq) ∧ w'.cell? ⟨b, (jp + 1) * 4 + 1, none⟩ = some (.int .i64 x.1.time) ∧ w'.cell? ⟨b, (jp + 1) * 4 + 2, none⟩ = some (.slice x.2.1 x.1.labs.length x.2.2) ∧ w'.cell? ⟨b, (jp + 1) * 4 + 3, none⟩ = some (.string ⟨x.1.line.toArray⟩) ∧ w'.cell? ⟨b, jp * 4, none⟩ = some (.int .i64 y.1.seq) ∧ w'.cell? ⟨b, jp * 4 + 1, none⟩ = some (.int .i64 y.1.time) ∧ w'.cell? ⟨b, jp * 4 + 2, none⟩ = some (.slice y.2.1 y.1.labs.length y.2.2) ∧ w'.cell? ⟨b, jp * 4 + 3, none⟩ = some (.string ⟨y.1.line.toArray⟩)) (exact hk)
              (first | (go_at_call 28; refine (HC2 _).mono ?_; rintro e w1 ⟨rfl, b1⟩; have hk := mkS _ (hk.1.trans (b1.mono hk.1.size))))
            have hw1 := hk.1
            clear hk mkS
            have hr1 := AR.out.below (show Below wi.heap.size wi _ from hw1)
            obtain ⟨x0, x1, x2, x3, xf0, xf1, xf2, xf3⟩ := hr1.at HG1.out
            obtain ⟨y0, y1, y2, y3, yf0, yf1, yf2, yf3⟩ := hr1.at HG0.out
            have HR1 := hid hr1
            clear hr1
            go_wp2_with fail
            go_region
            go_wp2_with fail
            go_roundw
            case rel =>
              have hk1' := hk1.out
              have P := (HR1.out.put (jp + 1) hk1' y).put jp (by rw [List.length_set]; omega) x
              rw [hset.out] at P
              refine ⟨jp, M0, y :: M2, rfl, HJP, by omega, by omega, hid (by rw [HM2.out]; simp), hid (fun z hz => ?_), row_drew P, World.grownBy.trans hg3 (World.grownBy.trans (below_grown hw1 _) (World.grownBy.trans (World.grownBy.trans (put_grown _ b _ _ _ _ _ _ _ _) (put_grown _ b _ _ _ _ _ _ _ _)) (grown_drew1 _ _)))⟩
              rcases List.mem_cons.1 hz with rfl | hz
              · rw [hlx.out]; exact decide_eq_true hlt0
              · exact HY.out z hz
            case measure => simp [intOf]
          · go_wp2_with fail
            go_region_held3 (fun w' => Below wi.heap.size wi w' ∧ w'.cell? ⟨b, (jp + 1) * 4, none⟩ = some (.int .i64 x.1.seq) ∧ w'.cell? ⟨b, (jp + 1) * 4 + 1, none⟩ = some (.int .i64 x.1.time) ∧ w'.cell? ⟨b, (jp + 1) * 4 + 2, none⟩ = some (.slice x.2.1 x.1.labs.length x.2.2) ∧ w'.cell? ⟨b, (jp + 1) * 4 + 3, none⟩ = some (.string ⟨x.1.line.toArray⟩) ∧ w'.cell? ⟨b, jp * 4, none⟩ = some (.int .i64 y.1.seq) ∧ w'.cell? ⟨b, jp * 4 + 1, none⟩ = some (.int .i64 y.1.time) ∧ w'.cell? ⟨b, jp * 4 + 2, none⟩ = some (.slice y.2.1 y.1.labs.length y.2.2) ∧ w'.cell? ⟨b, jp * 4 + 3, none⟩ = some (.string ⟨y.1.line.toArray⟩)) (exact hk)
              (first | (go_at_call 28; refine (HC2 _).mono ?_; rintro e w1 ⟨rfl, b1⟩; have hk := mkS _ (hk.1.trans (b1.mono hk.1.size))))
            have hw1 := hk.1
            clear hk mkS
            have hr1 := AR.out.below (show Below wi.heap.size wi _ from hw1)
            have HR1 := hid hr1
            clear hr1
            go_wp2_with fail
            go_roundw
            obtain ⟨p1, p2, p3⟩ := PLF (by rw [hlx.out]; exact decide_eq_false (by omega)) _ HR1.out
            case rel => exact ⟨t + 1, (M0 ++ [y]) ++ x :: M2, by go_num, by omega, by omega, p1, p2, p3, hid (.inl (by have := HLT.out; omega)), World.grownBy.trans hg3 (below_grown hw1 _)⟩
            case measure => simp [intOf]; omega
    · have hnl : ¬ (a : Int) + (t : Int) < (c : Int) := by have := HC.out; omega
      have hd : X.drop t = [] := List.drop_eq_nil_of_le (by omega)
      have ht : X.take t = X := List.take_of_length_le (by omega)
      rw [hd, List.append_nil] at hr
      have HM3 := HM.out
      rw [ht] at HM3
      have HM4 := hid HM3
      clear hd ht HM HM3 HL HT hlt
      go_wp2
      go_end0
      exact ⟨rfl, ⟨M, by simpa only [List.append_assoc] using hr, HM4.out⟩, hg⟩
end Go.Proofs.YtcdfjkhjdiojbaaDoor
