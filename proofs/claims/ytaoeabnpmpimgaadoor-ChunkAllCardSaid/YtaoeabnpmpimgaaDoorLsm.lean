/-
  Entries in a row that is sorted by their labels: the row, what is known of it; slices.swapRangeCmpFunc. Conditions: those that each theorem names.
  What slices.rotateCmpFunc does to a row of entries. Conditions: those that the theorem names.
  What slices.insertionSortCmpFunc does to a row of entries that is sorted by labels. Conditions: those that the theorem names.
  What slices.symMergeCmpFunc does to a row of entries where one of the two lists has one element. Conditions: those that each theorem names.
  What slices.symMergeCmpFunc does to a row of entries where the second list alone has one element. Conditions: those that the theorem names.
  Where slices.symMergeCmpFunc cuts the two lists: what its binary search finds is what the halves ask. Conditions: both lists are sorted.
-/
import Derived.Test.YtaoeabnpmpimgaaDoorSblk
import Derived.Test.YtaoeabnpmpimgaaDoorLrc
import Derived.Deep.RegionHeld3
section
namespace Go.Icz
open Go.RowKit
/-- The order of entries by their labels. -/
def cmpEL (x y : Ent) : Int := cmpL x.labs y.labs
def ltEL (x y : EV) : Bool := decide (cmpEL x.1 y.1 < 0)
theorem ltEL_ord : SWOrd ltEL := by
  refine ⟨fun x y h => ?_, fun x y z h => ?_⟩
  · unfold ltEL cmpEL at *
    have h1 := listCmp.neg x.1.labs y.1.labs
    simp only [decide_eq_true_eq, decide_eq_false_iff_not] at *
    omega
  · unfold ltEL cmpEL at *
    simp only [decide_eq_true_eq] at *
    have n1 := listCmp.neg y.1.labs z.1.labs
    have n2 := listCmp.neg z.1.labs x.1.labs
    have n3 := listCmp.neg x.1.labs y.1.labs
    by_cases h2 : cmpL x.1.labs y.1.labs < 0
    · exact .inl h2
    · right
      by_cases h3 : cmpL y.1.labs z.1.labs < 0
      · exact h3
      · have a1 := listCmp.le z.1.labs y.1.labs x.1.labs (by omega) (by omega)
        have n4 := listCmp.neg z.1.labs y.1.labs
        have n5 := listCmp.neg x.1.labs z.1.labs
        omega
/-- An entry's labels can be read in whatever world comes of this one by the row in block b alone. -/
def LabW (w : World) (b : Nat) (x : EV) : Prop := x.1.labs.length ≤ 4611686018427387904 ∧ ∀ w', w.grownBy w' (some b) → RdL w' (.slice x.2.1 x.1.labs.length x.2.2) x.1.labs
theorem LabW.grow {w w' : World} {b : Nat} {x : EV} (h : LabW w b x) (g : w.grownBy w' (some b)) : LabW w' b x := ⟨h.1, fun w2 h2 => h.2 w2 (World.grownBy.trans g h2)⟩
theorem LabW.below {w w' : World} {b : Nat} {x : EV} (h : LabW w b x) (hb : Below w.heap.size w w') : LabW w' b x := h.grow (below_grown hb _)
theorem LabW.rd {w : World} {b : Nat} {x : EV} (h : LabW w b x) : RdL w (.slice x.2.1 x.1.labs.length x.2.2) x.1.labs := h.2 w (World.grownBy.refl _ _)
theorem LabW.put4 {w : World} {b : Nat} {x : EV} (h : LabW w b x) {i j k m : Nat} {p q r s : Value} : LabW ((((w.setCell ⟨b, i, none⟩ p).setCell ⟨b, j, none⟩ q).setCell ⟨b, k, none⟩ r).setCell ⟨b, m, none⟩ s) b x := h.grow (put_grown w b i j k m p q r s)
/-- The row in block b holds the entries l, and their labels can be read. -/
def RowN (w : World) (b : Nat) (l : List EV) : Prop := RowE w b l ∧ ∀ x ∈ l, LabW w b x
theorem RowN.below {w w' : World} {b : Nat} {l : List EV} (h : RowN w b l) (hb : Below w.heap.size w w') : RowN w' b l := ⟨h.1.below hb, fun x hx => (h.2 x hx).below hb⟩
theorem RowN.put {w : World} {b : Nat} {l : List EV} (h : RowN w b l) (k : Nat) (hk : k < l.length) (p : EV) (hp : LabW w b p) :
    RowN ((((w.setCell ⟨b, k * 4, none⟩ (.int .i64 p.1.seq)).setCell ⟨b, k * 4 + 1, none⟩ (.int .i64 p.1.time)).setCell ⟨b, k * 4 + 2, none⟩ (.slice p.2.1 p.1.labs.length p.2.2)).setCell ⟨b, k * 4 + 3, none⟩ (.string ⟨p.1.line.toArray⟩)) b (l.set k p) := by
  refine ⟨h.1.put k hk p, fun x hx => ?_⟩
  rcases List.mem_or_eq_of_mem_set hx with h1 | h1
  · exact (h.2 x h1).put4
  · rw [h1]; exact hp.put4
theorem RowN.at {w : World} {b : Nat} {l : List EV} (h : RowN w b l) {k : Nat} {x : EV} (hk : l[k]? = some x) : w.cell? ⟨b, k * 4, none⟩ = some (.int .i64 x.1.seq) ∧ w.cell? ⟨b, k * 4 + 1, none⟩ = some (.int .i64 x.1.time) ∧ w.cell? ⟨b, k * 4 + 2, none⟩ = some (.slice x.2.1 x.1.labs.length x.2.2) ∧ w.cell? ⟨b, k * 4 + 3, none⟩ = some (.string ⟨x.1.line.toArray⟩) ∧
    w.frozen? ⟨b, k * 4, none⟩ = false ∧ w.frozen? ⟨b, k * 4 + 1, none⟩ = false ∧ w.frozen? ⟨b, k * 4 + 2, none⟩ = false ∧ w.frozen? ⟨b, k * 4 + 3, none⟩ = false := h.1.at hk
theorem RowN.lab {w : World} {b : Nat} {l : List EV} (h : RowN w b l) {k : Nat} {x : EV} (hk : l[k]? = some x) : LabW w b x := h.2 x (List.mem_of_getElem? hk)
theorem RowN.labI {w : World} {b : Nat} {l : List EV} (h : RowN w b l) (k : Nat) (hk : k < l.length) : LabW w b l[k] := h.2 _ (List.getElem_mem hk)
theorem row_drewN {w : World} {b : Nat} {l : List EV} (h : RowN w b l) : RowN w.drew b l := ⟨row_drew h.1, fun x hx => (h.2 x hx).grow (grown_drew1 w _)⟩
/-- The comparer as a function value. -/
def cmpG (f : Nat) : Value := .func (.func f) #[] #[]
end Go.Icz
namespace Go.Proofs.YtaoeabnpmpimgaaDoor
open Go.RowKit Go.Icz
set_option maxHeartbeats 4000000 in
set_option maxRecDepth 100000 in
theorem swapRange_isN (b cap a c n : Nat) (l : List EV) (f : Value) (w : World) (hR : RowN w b l) (ha : a + n ≤ l.length) (hc : c + n ≤ l.length) (hne : a ≠ c) (hlen : l.length ≤ 4611686018427387904) :
    Calls Tryd.prog 97 #[.slice (some ⟨b, 0, none⟩) l.length cap, .int .i64 a, .int .i64 c, .int .i64 n, f] w fun e w' => e = .returned (.tuple #[]) ∧ RowN w' b (srl l a c n) ∧ w.grownBy w' (some b) := by
  go_enter Tryd.func97, Tryd.ntmps97
  go_wp2
  go_loopw [10] (fun iv wr => ∃ i : Nat, iv = .int .i64 i ∧ i ≤ n ∧ RowN wr b (srl l a c i) ∧ w.grownBy wr (some b)) (fun iv _ => n - (intOf iv).toNat)
  case atStart => exact ⟨0, rfl, by omega, hR, World.grownBy.refl _ _⟩
  case round =>
    obtain ⟨i, rfl, hi, hr, hg⟩ := hrel
    by_cases hlt : i < n
    · have hl := srl_length l a c i
      have hp1 : a + i < (srl l a c i).length := by omega
      have hq1 : c + i < (srl l a c i).length := by omega
      have HS : Hid (srl l a c (i + 1) = ((srl l a c i).set (a + i) (srl l a c i)[c + i]).set (c + i) (srl l a c i)[a + i]) := hid (lswap_set hp1 hq1)
      obtain ⟨x0, x1, x2, x3, xf0, xf1, xf2, xf3⟩ := hr.1.2 (a + i) hp1
      obtain ⟨y0, y1, y2, y3, yf0, yf1, yf2, yf3⟩ := hr.1.2 (c + i) hq1
      have LX := hid (hr.labI (a + i) hp1)
      have LY := hid (hr.labI (c + i) hq1)
      have P2 := fun u u2 (h1 : LabW wr b u) (h2 : LabW wr b u2) => (hr.put (a + i) hp1 u h1).put (c + i) (by rw [List.length_set]; exact hq1) u2 h2.put4
      generalize srl l a c i = l1 at *
      generalize l1[a + i] = x at *
      generalize l1[c + i] = y at *
      have zp : IntKind.i64.wrap ((a : Int) + (i : Int)) = (a : Int) + (i : Int) := by rw [IntKind.wrap_i64]; omega
      have zq : IntKind.i64.wrap ((c : Int) + (i : Int)) = (c : Int) + (i : Int) := by rw [IntKind.wrap_i64]; omega
      have zp0 : (0 : Int) ≤ (a : Int) + (i : Int) := by omega
      have zq0 : (0 : Int) ≤ (c : Int) + (i : Int) := by omega
      have zpl : (a : Int) + (i : Int) < (l.length : Int) := by omega
      have zql : (c : Int) + (i : Int) < (l.length : Int) := by omega
      have zpn : ((a : Int) + (i : Int)).toNat = a + i := by omega
      have zqn : ((c : Int) + (i : Int)).toNat = c + i := by omega
      have hlt' : (i : Int) < (n : Int) := by omega
      go_wp2
      go_region
      go_wp2
      go_roundw
      case rel => exact ⟨i + 1, by go_num, by omega, by rw [HS.out]; exact row_drewN (P2 y x LY.out LX.out), World.grownBy.trans hg (World.grownBy.trans (World.grownBy.trans (put_grown wr b _ _ _ _ _ _ _ _) (put_grown _ b _ _ _ _ _ _ _ _)) (grown_drew1 _ _))⟩
      case measure => simp [intOf]; omega
    · obtain rfl : i = n := by omega
      go_wp2
      go_end0
      exact ⟨rfl, hr, hg⟩
set_option maxHeartbeats 1000000 in
set_option maxRecDepth 100000 in
theorem cmp_callN {b : Nat} (x y : EV) (w : World) (hx : LabW w b x) (hy : LabW w b y) : Calls Tryd.prog 23 #[.agg #[.int .i64 x.1.seq, .int .i64 x.1.time, .slice x.2.1 x.1.labs.length x.2.2, .string ⟨x.1.line.toArray⟩], .agg #[.int .i64 y.1.seq, .int .i64 y.1.time, .slice y.2.1 y.1.labs.length y.2.2, .string ⟨y.1.line.toArray⟩]] w fun e w' => e = .returned (.int .i64 (cmpEL x.1 y.1)) ∧ Below w.heap.size w w' := by
  have h := fun o1 o2 => LCompare_is _ _ x.1.labs y.1.labs ((w.alloc o1).alloc o2) ((hx.rd.alloc o1).alloc o2) ((hy.rd.alloc o1).alloc o2) hx.1 hy.1
  have hc : cmpEL x.1 y.1 = cmpL x.1.labs y.1.labs := rfl
  rw [hc]
  generalize cmpL x.1.labs y.1.labs = r at *
  clear hx hy hc
  obtain ⟨⟨s1, t1, l1, n1⟩, A1, c1⟩ := x
  obtain ⟨⟨s2, t2, l2, n2⟩, A2, c2⟩ := y
  simp only at h ⊢
  generalize l1.length = m1 at *
  generalize l2.length = m2 at *
  go_enter Tryd.func23, Tryd.ntmps23
  go_wp2_with (go_at_call 24; refine (h _ _).mono ?_; rintro e w3 ⟨rfl, b3⟩)
  go_ret
  exact ⟨rfl, (((Below.refl _ w).alloc (Nat.le_refl _) _).alloc (by simp) _).trans (b3.mono (by simp; omega))⟩
end Go.Proofs.YtaoeabnpmpimgaaDoor
end
section
namespace Go.Proofs.YtaoeabnpmpimgaaDoor
open Go.RowKit Go.Icz
set_option maxHeartbeats 1000000 in
set_option maxRecDepth 100000 in
theorem rotate_isN (b cap N a m c : Nat) (A X Y B : List EV) (f : Value) (w : World) (hN : (A ++ X ++ Y ++ B).length = N) (hR : RowN w b (A ++ X ++ Y ++ B)) (ha : a = A.length) (hm : m = A.length + X.length) (hc : c = m + Y.length) (hX : 0 < X.length) (hY : 0 < Y.length) (hlen : N ≤ 4611686018427387904) :
    Calls Tryd.prog 82 #[.slice (some ⟨b, 0, none⟩) N cap, .int .i64 a, .int .i64 m, .int .i64 c, f] w fun e w' => e = .returned (.tuple #[]) ∧ RowN w' b (A ++ Y ++ X ++ B) ∧ w.grownBy w' (some b) := by
  have hNl : A.length + X.length + Y.length + B.length = N := by rw [← hN]; simp only [List.length_append]
  have HNl := hid hNl
  have hcb : c ≤ N := by omega
  have hma : a ≤ m := by omega
  have hmc : m ≤ c := by omega
  have za : (m : Int) - (a : Int) = (X.length : Int) := by omega
  have zc : (c : Int) - (m : Int) = (Y.length : Int) := by omega
  have HM := hid hm
  clear hN hNl ha hm hc
  go_enter Tryd.func82, Tryd.ntmps82
  go_wp2
  go_loopw [10, 11] (fun iv jv wr => ∃ (i j : Nat) (P X' Y' S : List EV), iv = .int .i64 i ∧ jv = .int .i64 j ∧ i = X'.length ∧ j = Y'.length ∧ 0 < i ∧ 0 < j ∧ RowN wr b (A ++ P ++ X' ++ Y' ++ S ++ B) ∧ Hid (P ++ Y' ++ X' ++ S = Y ++ X) ∧ A.length + P.length + i = m ∧ m + j + S.length + B.length = N ∧ w.grownBy wr (some b)) (fun iv jv _ => (intOf iv).toNat + (intOf jv).toNat)
  case atStart => exact ⟨X.length, Y.length, [], X, Y, [], by go_num, by go_num, rfl, rfl, hX, hY, by simpa using hR, hid (by simp), by have := HM.out; simp; omega, by have := HM.out; have := HNl.out; simp; omega, World.grownBy.refl _ _⟩
  case round =>
    obtain ⟨i, j, P, X', Y', S, rfl, rfl, hi, hj, hi0, hj0, hr, HT, hpos, hend, hg⟩ := hrel
    have hb1 : i ≤ m := by omega
    have hb2 : m + j ≤ N := by omega
    have HI := hid hi
    have HJ := hid hj
    have HP := hid hpos
    have HE := hid hend
    clear za zc
    by_cases heq : i = j
    · have hne : ((i : Int) != (j : Int)) = false := by simp [heq]
      have e1 : ((A ++ P) ++ X' ++ ([] : List EV) ++ Y' ++ (S ++ B)).length = N := by simp only [List.length_append, List.length_nil]; omega
      have e2 : (((A ++ P).length : Nat) : Int) = (m : Int) - (i : Int) := by simp only [List.length_append]; omega
      have e3 : ((((A ++ P).length + X'.length + ([] : List EV).length) : Nat) : Int) = (m : Int) := by simp only [List.length_append, List.length_nil]; omega
      have SW := swapRange_isN b cap (A ++ P).length ((A ++ P).length + X'.length + ([] : List EV).length) X'.length ((A ++ P) ++ X' ++ [] ++ Y' ++ (S ++ B)) f wr (by simpa only [List.append_assoc, List.nil_append] using hr) (by rw [e1]; simp only [List.length_append]; omega) (by rw [e1]; simp only [List.length_append, List.length_nil]; omega) (by omega) (by omega)
      rw [srl_all (A ++ P) X' [] Y' (S ++ B) (by omega), e1, e2, e3, ← hi] at SW
      have HL : Hid ((A ++ P) ++ Y' ++ [] ++ X' ++ (S ++ B) = A ++ Y ++ X ++ B) := hid (by
        have := HT.out
        simp only [List.append_assoc, List.nil_append] at this ⊢
        rw [← List.append_assoc Y X B, ← this]
        simp only [List.append_assoc])
      subst heq
      clear hr HT e1 e2 e3 hi hj hpos hend
      go_wp2_with (go_at_call 97; refine SW.mono ?_; rintro e w1 ⟨rfl, r1, g1⟩; clear SW)
      go_end0
      exact ⟨rfl, by rw [← HL.out]; exact r1, World.grownBy.trans hg g1⟩
    · have hne : ((i : Int) != (j : Int)) = true := by simp; omega
      by_cases hgt : j < i
      · have hgt' : (j : Int) < (i : Int) := by omega
        have hs : X' = X'.take j ++ X'.drop j := (List.take_append_drop j X').symm
        have l1 : (X'.take j).length = j := by simp; omega
        have l2 : (X'.drop j).length = i - j := by simp; omega
        generalize X'.take j = X1 at *
        generalize X'.drop j = X2 at *
        subst hs
        have e1 : ((A ++ P) ++ X1 ++ X2 ++ Y' ++ (S ++ B)).length = N := by simp only [List.length_append] at hi ⊢; omega
        have e2 : (((A ++ P).length : Nat) : Int) = (m : Int) - (i : Int) := by simp only [List.length_append]; omega
        have e3 : ((((A ++ P).length + X1.length + X2.length) : Nat) : Int) = (m : Int) := by simp only [List.length_append] at hi ⊢; omega
        have SW := swapRange_isN b cap (A ++ P).length ((A ++ P).length + X1.length + X2.length) X1.length ((A ++ P) ++ X1 ++ X2 ++ Y' ++ (S ++ B)) f wr (by simpa only [List.append_assoc] using hr) (by rw [e1]; simp only [List.length_append]; omega) (by rw [e1]; simp only [List.length_append]; omega) (by omega) (by omega)
        rw [srl_all (A ++ P) X1 X2 Y' (S ++ B) (by omega), e1, e2, e3, l1] at SW
        have HT2 : Hid ((P ++ Y') ++ X1 ++ X2 ++ S = Y ++ X) := hid (by rw [← HT.out]; simp only [List.append_assoc])
        have L1 := hid l1
        have L2 := hid l2
        clear hr HT e1 e2 e3 hi hj hpos hend l1 l2
        have hil : i ≤ m + j := by omega
        go_wp2_with (go_at_call 97; refine SW.mono ?_; rintro e w1 ⟨rfl, r1, g1⟩; clear SW)
        go_roundw
        case rel =>
          have hi := HI.out
          have hj := HJ.out
          have hpos := HP.out
          have hend := HE.out
          have l1 := L1.out
          have l2 := L2.out
          exact ⟨i - j, j, P ++ Y', X2, X1, S, by go_num, rfl, by omega, by omega, by omega, by omega, by simpa only [List.append_assoc] using r1, HT2, by simp only [List.length_append]; omega, by omega, World.grownBy.trans hg g1⟩
        case measure => simp [intOf]; omega
      · have hgt' : ¬ (j : Int) < (i : Int) := by omega
        have hs : Y' = Y'.take (j - i) ++ Y'.drop (j - i) := (List.take_append_drop (j - i) Y').symm
        have l1 : (Y'.take (j - i)).length = j - i := by simp; omega
        have l2 : (Y'.drop (j - i)).length = i := by simp; omega
        generalize Y'.take (j - i) = Y1 at *
        generalize Y'.drop (j - i) = Y2 at *
        subst hs
        have e1 : ((A ++ P) ++ X' ++ Y1 ++ Y2 ++ (S ++ B)).length = N := by simp only [List.length_append] at hj ⊢; omega
        have e2 : (((A ++ P).length : Nat) : Int) = (m : Int) - (i : Int) := by simp only [List.length_append]; omega
        have e3 : ((((A ++ P).length + X'.length + Y1.length) : Nat) : Int) = (m : Int) + (j : Int) - (i : Int) := by simp only [List.length_append]; omega
        have SW := swapRange_isN b cap (A ++ P).length ((A ++ P).length + X'.length + Y1.length) X'.length ((A ++ P) ++ X' ++ Y1 ++ Y2 ++ (S ++ B)) f wr (by simpa only [List.append_assoc] using hr) (by rw [e1]; simp only [List.length_append]; omega) (by rw [e1]; simp only [List.length_append]; omega) (by omega) (by omega)
        rw [srl_all (A ++ P) X' Y1 Y2 (S ++ B) (by omega), e1, e2, e3, ← hi] at SW
        have HT2 : Hid (P ++ Y1 ++ Y2 ++ (X' ++ S) = Y ++ X) := hid (by rw [← HT.out]; simp only [List.append_assoc])
        have L1 := hid l1
        have L2 := hid l2
        clear hr HT e1 e2 e3 hi hj hpos hend l1 l2
        have hil : i ≤ m + j := by omega
        go_wp2_with (go_at_call 97; refine SW.mono ?_; rintro e w1 ⟨rfl, r1, g1⟩; clear SW)
        go_roundw
        case rel =>
          have hi := HI.out
          have hj := HJ.out
          have hpos := HP.out
          have hend := HE.out
          have l1 := L1.out
          have l2 := L2.out
          exact ⟨i, j - i, P, Y2, Y1, X' ++ S, rfl, by go_num, by omega, by omega, by omega, by omega, by simpa only [List.append_assoc] using r1, HT2, by omega, by simp only [List.length_append]; omega, World.grownBy.trans hg g1⟩
        case measure => simp [intOf]; omega
end Go.Proofs.YtaoeabnpmpimgaaDoor
end
section
namespace Go.Icz
open Go.RowKit
/-- The inner loop has come to its place. -/
theorem StableOf.placedN {M1 M2 : List EV} {x : EV} {X : List EV} (hM : StableOf ltEL X (M1 ++ M2)) (h2 : ∀ y ∈ M2, ltEL x y = true) (h1 : ∀ M0 y, M1 = M0 ++ [y] → ltEL x y = false) : StableOf ltEL (X ++ [x]) (M1 ++ x :: M2) := by
  have hs := hM.1
  have h3 : ∀ z ∈ M1, ltEL x z = false := by
    rcases List.eq_nil_or_concat M1 with rfl | ⟨M0, y, rfl⟩
    · simp
    · have hy := h1 M0 y (by simp)
      intro z hz
      have hs1 := (SortedL.append_iff.1 hs).1
      rw [List.concat_eq_append] at hs1 hz
      have h4 := (SortedL.append_iff.1 hs1).2.2
      rcases List.mem_append.1 hz with hz | hz
      · exact SWOrd.le_trans ltEL_ord (h4 z hz y (by simp)) hy
      · obtain rfl := List.mem_singleton.1 hz
        exact hy
  exact StableOf.trans ⟨hM.1, hM.2⟩ (StableOf.refl hM.1) |> fun _ => (StableOf.pieces hM (StableOf.refl (List.pairwise_singleton _ _)) (StableOf.last ltEL_ord hs h3 h2))
end Go.Icz
namespace Go.Proofs.YtaoeabnpmpimgaaDoor
open Go.RowKit Go.Icz
set_option maxHeartbeats 2000000 in
set_option maxRecDepth 100000 in
theorem insertion_isN (b cap N a c : Nat) (A X B : List EV) (w : World) (hN : A.length + X.length + B.length = N) (hR : RowN w b (A ++ X ++ B)) (ha : a = A.length) (hc : c = a + X.length) (hlen : N ≤ 4611686018427387904) :
    Calls Tryd.prog 67 #[.slice (some ⟨b, 0, none⟩) N cap, .int .i64 a, .int .i64 c, cmpG 23] w fun e w' => e = .returned (.tuple #[]) ∧ (∃ M, RowN w' b (A ++ M ++ B) ∧ StableOf ltEL X M) ∧ w.grownBy w' (some b) := by
  have HN := hid hN
  have HA := hid ha
  have HC := hid hc
  have hcN : c ≤ N := by omega
  have hac : a ≤ c := by omega
  clear hN ha hc
  unfold cmpG
  go_enter Tryd.func67, Tryd.ntmps67
  go_wp2
  go_loopw [8] (fun iv wr => ∃ (t : Nat) (M : List EV), iv = .int .i64 ((a : Int) + (t : Int)) ∧ 1 ≤ t ∧ t ≤ N + 1 ∧ RowN wr b (A ++ M ++ X.drop t ++ B) ∧ Hid (StableOf ltEL (X.take t) M) ∧ Hid (M.length = min t X.length) ∧ Hid (t ≤ X.length ∨ t = 1) ∧ w.grownBy wr (some b)) (fun iv _ => (c + 1) - (intOf iv).toNat)
  case atStart =>
    refine ⟨1, X.take 1, by go_num, by omega, by omega, by rw [List.append_assoc A (X.take 1), List.take_append_drop]; exact hR, hid (StableOf.refl ?_), hid (by simp), hid (.inr rfl), World.grownBy.refl _ _⟩
    cases X with
    | nil => exact List.Pairwise.nil
    | cons x r => exact List.pairwise_singleton _ _
  case round =>
    obtain ⟨t, M, rfl, ht1, htN, hr, HM, HL, HT, hg⟩ := hrel
    by_cases hlt : t < X.length
    · have hltz : (a : Int) + (t : Int) < (c : Int) := by have := HC.out; omega
      have hil : a + t < N := by have := HC.out; omega
      have hr2 : RowN wr b (A ++ M ++ X[t] :: X.drop (t + 1) ++ B) := by rw [List.drop_eq_getElem_cons hlt] at hr; exact hr
      have HX : Hid (X.take (t + 1) = X.take t ++ [X[t]]) := hid (List.take_succ_eq_append_getElem hlt)
      have HL2 : Hid (M.length = t) := hid (by have := HL.out; omega)
      have HLT := hid hlt
      generalize X[t] = x at *
      clear hr hlt HT HL
      generalize hD : X.drop (t + 1) = D at *
      have HD := hid hD
      clear hD
      go_wp2
      generalize wr = wo at *
      go_loopw [9] (fun jv wi => ∃ (j : Nat) (M1 M2 : List EV), jv = .int .i64 (j : Int) ∧ Hid (j = a + M1.length) ∧ j ≤ a + t ∧ a ≤ j ∧ Hid (M = M1 ++ M2) ∧ Hid (∀ y ∈ M2, ltEL x y = true) ∧ RowN wi b (A ++ M1 ++ x :: M2 ++ D ++ B) ∧ w.grownBy wi (some b)) (fun jv _ => (intOf jv).toNat)
      case atStart => exact ⟨a + t, M, [], by go_num, hid (by rw [HL2.out]), by omega, by omega, hid (by simp), hid (by simp), by simpa using hr2, hg⟩
      case round =>
        obtain ⟨j, M1, M2, rfl, HJ, hjt, haj, HM2, HY, hr3, hg3⟩ := hrel
        generalize wr = wi at *
        have placed : (∀ M0 y, M1 = M0 ++ [y] → ltEL x y = false) → ∀ wz, RowN wz b (A ++ M1 ++ x :: M2 ++ D ++ B) → RowN wz b (A ++ (M1 ++ x :: M2) ++ X.drop (t + 1) ++ B) ∧ Hid (StableOf ltEL (X.take (t + 1)) (M1 ++ x :: M2)) ∧ Hid ((M1 ++ x :: M2).length = min (t + 1) X.length) := fun h wz hz => by
          refine ⟨by rw [HD.out]; simpa only [List.append_assoc, List.cons_append] using hz, hid (by rw [HX.out]; exact StableOf.placedN (by rw [← HM2.out]; exact HM.out) HY.out h), hid ?_⟩
          have h1 := HL2.out
          have h2 := HLT.out
          rw [HM2.out] at h1
          simp only [List.length_append, List.length_cons] at h1 ⊢
          omega
        rcases List.eq_nil_or_concat M1 with hnil | ⟨M0, y, hcon⟩
        · have PL := placed (fun M0 y e => by rw [hnil] at e; simp at e)
          have hja : ¬ (a : Int) < (j : Int) := by have := HJ.out; rw [hnil] at this; simp at this; omega
          have hja2 : decide ((a : Int) < (j : Int)) = false := decide_eq_false hja
          have AP : Hid _ := hid placed
          clear placed hnil
          go_wp2_with fail
          refine wp_region_held_drew (S := fun _ => True) (by kernel_rfl) True.intro (fun hHeld => ?_)
          refine takeAt (i := 0) (d := 18) (v := .int .i64 (j : Int)) rfl rfl (by kernel_rfl) (by kernel_rfl) (by kernel_rfl) (fun _ _ _ h => h) (Or.inl ⟨by rfl, fun w hSw => by go_simp⟩) hHeld ?_
          simp only [List.setIfInBounds_toArray, List.set_cons_zero, List.set_cons_succ]
          refine takeAt (i := 1) (d := 19) (v := .int .i64 (a : Int)) rfl rfl (by kernel_rfl) (by kernel_rfl) (by kernel_rfl) (fun _ _ _ h => h) (Or.inl ⟨by rfl, fun w hSw => by go_simp⟩) hHeld ?_
          simp only [List.setIfInBounds_toArray, List.set_cons_zero, List.set_cons_succ]
          refine takeAt (i := 2) (d := 20) (v := .bool false) rfl rfl (by kernel_rfl) (by kernel_rfl) (by kernel_rfl) (fun _ _ _ h => h) (Or.inl ⟨by rfl, fun w hSw => by go_simp; first | done | exact hja2 | exact hja | omega | (simp; omega)⟩) hHeld ?_
          simp only [List.setIfInBounds_toArray, List.set_cons_zero, List.set_cons_succ]
          refine takeAt (i := 3) (d := 21) (v := .bool false) rfl rfl (by kernel_rfl) (by kernel_rfl) (by kernel_rfl) (fun _ _ _ h => h) (Or.inl ⟨by rfl, fun w hSw => by go_simp⟩) hHeld ?_
          simp only [List.setIfInBounds_toArray, List.set_cons_zero, List.set_cons_succ]
          refine takeAt (i := 4) (d := 22) (v := undef) rfl rfl (by kernel_rfl) (by kernel_rfl) (by kernel_rfl) (fun _ _ _ h => h) (Or.inr ⟨by rfl, rfl⟩) hHeld ?_
          simp only [List.setIfInBounds_toArray, List.set_cons_zero, List.set_cons_succ]
          refine takeAt (i := 5) (d := 23) (v := undef) rfl rfl (by kernel_rfl) (by kernel_rfl) (by kernel_rfl) (fun _ _ _ h => h) (Or.inr ⟨by rfl, rfl⟩) hHeld ?_
          simp only [List.setIfInBounds_toArray, List.set_cons_zero, List.set_cons_succ]
          refine takeAt (i := 6) (d := 24) (v := undef) rfl rfl (by kernel_rfl) (by kernel_rfl) (by kernel_rfl) (fun _ _ _ h => h) (Or.inr ⟨by rfl, rfl⟩) hHeld ?_
          simp only [List.setIfInBounds_toArray, List.set_cons_zero, List.set_cons_succ]
          refine takeAt (i := 7) (d := 25) (v := undef) rfl rfl (by kernel_rfl) (by kernel_rfl) (by kernel_rfl) (fun _ _ _ h => h) (Or.inr ⟨by rfl, rfl⟩) hHeld ?_
          simp only [List.setIfInBounds_toArray, List.set_cons_zero, List.set_cons_succ]
          refine takeAt (i := 8) (d := 26) (v := undef) rfl rfl (by kernel_rfl) (by kernel_rfl) (by kernel_rfl) (fun _ _ _ h => h) (Or.inr ⟨by rfl, rfl⟩) hHeld ?_
          simp only [List.setIfInBounds_toArray, List.set_cons_zero, List.set_cons_succ]
          refine takeAt (i := 9) (d := 27) (v := undef) rfl rfl (by kernel_rfl) (by kernel_rfl) (by kernel_rfl) (fun _ _ _ h => h) (Or.inr ⟨by rfl, rfl⟩) hHeld ?_
          simp only [List.setIfInBounds_toArray, List.set_cons_zero, List.set_cons_succ]
          refine takeAt (i := 10) (d := 28) (v := undef) rfl rfl (by kernel_rfl) (by kernel_rfl) (by kernel_rfl) (fun _ _ _ h => h) (Or.inr ⟨by rfl, rfl⟩) hHeld ?_
          simp only [List.setIfInBounds_toArray, List.set_cons_zero, List.set_cons_succ]
          refine takeAt (i := 11) (d := 29) (v := undef) rfl rfl (by kernel_rfl) (by kernel_rfl) (by kernel_rfl) (fun _ _ _ h => h) (Or.inr ⟨by rfl, rfl⟩) hHeld ?_
          simp only [List.setIfInBounds_toArray, List.set_cons_zero, List.set_cons_succ]
          refine takeAt (i := 12) (d := 30) (v := undef) rfl rfl (by kernel_rfl) (by kernel_rfl) (by kernel_rfl) (fun _ _ _ h => h) (Or.inr ⟨by rfl, rfl⟩) hHeld ?_
          simp only [List.setIfInBounds_toArray, List.set_cons_zero, List.set_cons_succ]
          refine takeAt (i := 13) (d := 31) (v := undef) rfl rfl (by kernel_rfl) (by kernel_rfl) (by kernel_rfl) (fun _ _ _ h => h) (Or.inr ⟨by rfl, rfl⟩) hHeld ?_
          simp only [List.setIfInBounds_toArray, List.set_cons_zero, List.set_cons_succ]
          refine takeAt (i := 14) (d := 32) (v := undef) rfl rfl (by kernel_rfl) (by kernel_rfl) (by kernel_rfl) (fun _ _ _ h => h) (Or.inr ⟨by rfl, rfl⟩) hHeld ?_
          simp only [List.setIfInBounds_toArray, List.set_cons_zero, List.set_cons_succ]
          refine takeAt (i := 15) (d := 33) (v := undef) rfl rfl (by kernel_rfl) (by kernel_rfl) (by kernel_rfl) (fun _ _ _ h => h) (Or.inr ⟨by rfl, rfl⟩) hHeld ?_
          simp only [List.setIfInBounds_toArray, List.set_cons_zero, List.set_cons_succ]
          refine takeAt (i := 16) (d := 34) (v := .bool false) rfl rfl (by kernel_rfl) (by kernel_rfl) (by kernel_rfl) (fun _ _ _ h => h) (Or.inl ⟨by rfl, fun w hSw => by go_simp⟩) hHeld ?_
          simp only [List.setIfInBounds_toArray, List.set_cons_zero, List.set_cons_succ]
          refine wpAnyH_done (by kernel_rfl) ?_ _
          go_wp2_with fail
          go_roundw
          obtain ⟨p1, p2, p3⟩ := PL _ (row_drewN hr3)
          case rel => exact ⟨t + 1, M1 ++ x :: M2, by go_num, by omega, by omega, p1, p2, p3, hid (.inl (by have := HLT.out; omega)), World.grownBy.trans hg3 (grown_drew1 _ _)⟩
          case measure => simp [intOf]; omega
        · rw [List.concat_eq_append] at hcon
          subst hcon
          obtain ⟨jp, hjp⟩ : ∃ jp, jp = a + M0.length := ⟨_, rfl⟩
          have hj2 : j = jp + 1 := by have := HJ.out; simp only [List.length_append, List.length_singleton] at this; omega
          subst hj2
          have g1 : (A ++ (M0 ++ [y]) ++ x :: M2 ++ D ++ B)[jp + 1]? = some x := by
            rw [hjp, HA.out]
            simp only [List.append_assoc, List.cons_append, List.nil_append]
            rw [List.getElem?_append_right (by omega), List.getElem?_append_right (by omega), show A.length + M0.length + 1 - A.length - M0.length = 1 by omega]
            rfl
          have g0 : (A ++ (M0 ++ [y]) ++ x :: M2 ++ D ++ B)[jp]? = some y := by
            rw [hjp, HA.out]
            simp only [List.append_assoc, List.cons_append, List.nil_append]
            rw [List.getElem?_append_right (by omega), List.getElem?_append_right (by omega), show A.length + M0.length - A.length - M0.length = 0 by omega]
            rfl
          obtain ⟨x0, x1, x2, x3, xf0, xf1, xf2, xf3⟩ := hr3.at g1
          have LBg1 := hid (hr3.lab g1)
          obtain ⟨y0, y1, y2, y3, yf0, yf1, yf2, yf3⟩ := hr3.at g0
          have LBg0 := hid (hr3.lab g0)
          have hbz := hr3.1.1
          have mkS : ∀ w', Below wi.heap.size wi w' → Below wi.heap.size wi w' ∧ w'.cell? ⟨b, (jp + 1) * 4, none⟩ = some (.int .i64 x.1.seq) ∧ w'.cell? ⟨b, (jp + 1) * 4 + 1, none⟩ = some (.int .i64 x.1.time) ∧ w'.cell? ⟨b, (jp + 1) * 4 + 2, none⟩ = some (.slice x.2.1 x.1.labs.length x.2.2) ∧ w'.cell? ⟨b, (jp + 1) * 4 + 3, none⟩ = some (.string ⟨x.1.line.toArray⟩) ∧ w'.cell? ⟨b, jp * 4, none⟩ = some (.int .i64 y.1.seq) ∧ w'.cell? ⟨b, jp * 4 + 1, none⟩ = some (.int .i64 y.1.time) ∧ w'.cell? ⟨b, jp * 4 + 2, none⟩ = some (.slice y.2.1 y.1.labs.length y.2.2) ∧ w'.cell? ⟨b, jp * 4 + 3, none⟩ = some (.string ⟨y.1.line.toArray⟩) := fun w' h =>
            ⟨h, (h.cell (p := ⟨b, (jp + 1) * 4, none⟩) hbz).trans x0, (h.cell (p := ⟨b, (jp + 1) * 4 + 1, none⟩) hbz).trans x1, (h.cell (p := ⟨b, (jp + 1) * 4 + 2, none⟩) hbz).trans x2, (h.cell (p := ⟨b, (jp + 1) * 4 + 3, none⟩) hbz).trans x3,
              (h.cell (p := ⟨b, jp * 4, none⟩) hbz).trans y0, (h.cell (p := ⟨b, jp * 4 + 1, none⟩) hbz).trans y1, (h.cell (p := ⟨b, jp * 4 + 2, none⟩) hbz).trans y2, (h.cell (p := ⟨b, jp * 4 + 3, none⟩) hbz).trans y3⟩
          have hk := mkS wi.drew (Below.refl _ _).drew
          have HC2 := fun w1 (h9 : Below wi.heap.size wi w1) => cmp_callN (b := b) x y w1 (LabW.below LBg1.out h9) (LabW.below LBg0.out h9)
          have hja : (a : Int) < (jp : Int) + 1 := by omega
          have zj : IntKind.i64.wrap (jp : Int) = (jp : Int) := by rw [IntKind.wrap_i64]; omega
          have zj0 : (0 : Int) ≤ (jp : Int) + 1 := by omega
          have zjl : (jp : Int) + 1 < (N : Int) := by omega
          have zjl2 : (jp : Int) < (N : Int) := by omega
          have zjn : ((jp : Int) + 1).toNat = jp + 1 := by omega
          have HG1 := hid g1
          have HG0 := hid g0
          have PLF : ltEL x y = false → _ := fun hf => placed (fun M0' y' e => by
            have e2 := List.append_inj_right' e rfl
            injection e2 with e3 _
            rw [← e3]
            exact hf)
          have hset : Hid (((A ++ (M0 ++ [y]) ++ x :: M2 ++ D ++ B).set (jp + 1) y).set jp x = A ++ M0 ++ x :: (y :: M2) ++ D ++ B) := hid (by
            have h9 := set_two (A ++ M0) (M2 ++ D ++ B) x y
            rw [List.length_append, ← HA.out, ← hjp] at h9
            simpa only [List.append_assoc, List.cons_append, List.nil_append] using h9)
          have hk1 : Hid (jp + 1 < (A ++ (M0 ++ [y]) ++ x :: M2 ++ D ++ B).length) := hid (List.getElem?_eq_some_iff.1 g1).1
          have hlx : Hid (ltEL x y = decide (cmpEL x.1 y.1 < 0)) := hid rfl
          have AR := hid hr3
          have HJP := hid hjp
          clear placed g1 g0 x0 x1 x2 x3 y0 y1 y2 y3 hr3 hjp
          generalize hcv : cmpEL x.1 y.1 = cv at *
          by_cases hlt0 : cv < 0
          · go_wp2_with fail
            go_region_held3 (fun w' => Below wi.heap.size wi w' ∧ w'.cell? ⟨b, (jp + 1) * 4, none⟩ = some (.int .i64 x.1.seq) ∧ w'.cell? ⟨b, (jp + 1) * 4 + 1, none⟩ = some (.int .i64 x.1.time) ∧ w'.cell? ⟨b, (jp + 1) * 4 + 2, none⟩ = some (.slice x.2.1 x.1.labs.length x.2.2) ∧ w'.cell? ⟨b, (jp + 1) * 4 + 3, none⟩ = some (.string ⟨x.1.line.toArray⟩) ∧ w'.cell? ⟨b, jp * 4, none⟩ = some (.int .i64 y.1.seq) ∧ w'.cell? ⟨b, jp * 4 + 1, none⟩ = some (.int .i64 y.1.time) ∧ w'.cell? ⟨b, jp * 4 + 2, none⟩ = some (.slice y.2.1 y.1.labs.length y.2.2) ∧ w'.cell? ⟨b, jp * 4 + 3, none⟩ = some (.string ⟨y.1.line.toArray⟩)) (exact hk)
              (first | (go_at_call 23; refine (HC2 _ hk.1).mono ?_; rintro e w1 ⟨rfl, b1⟩; have hk := mkS _ (hk.1.trans (b1.mono hk.1.size))))
            have hw1 := hk.1
            clear hk mkS
            have hr1 := AR.out.below (show Below wi.heap.size wi _ from hw1)
            obtain ⟨x0, x1, x2, x3, xf0, xf1, xf2, xf3⟩ := hr1.at HG1.out
            obtain ⟨y0, y1, y2, y3, yf0, yf1, yf2, yf3⟩ := hr1.at HG0.out
            have HR1 := hid hr1
            clear hr1
            go_wp2_with fail
            go_region
            go_wp2_with fail
            go_roundw
            case rel =>
              have hk1' := hk1.out
              have P := (HR1.out.put (jp + 1) hk1' y (LBg0.out.below hw1)).put jp (by rw [List.length_set]; omega) x (LBg1.out.below hw1).put4
              rw [hset.out] at P
              refine ⟨jp, M0, y :: M2, rfl, HJP, by omega, by omega, hid (by rw [HM2.out]; simp), hid (fun z hz => ?_), row_drewN P, World.grownBy.trans hg3 (World.grownBy.trans (below_grown hw1 _) (World.grownBy.trans (World.grownBy.trans (put_grown _ b _ _ _ _ _ _ _ _) (put_grown _ b _ _ _ _ _ _ _ _)) (grown_drew1 _ _)))⟩
              rcases List.mem_cons.1 hz with rfl | hz
              · rw [hlx.out]; exact decide_eq_true hlt0
              · exact HY.out z hz
            case measure => simp [intOf]
          · go_wp2_with fail
            go_region_held3 (fun w' => Below wi.heap.size wi w' ∧ w'.cell? ⟨b, (jp + 1) * 4, none⟩ = some (.int .i64 x.1.seq) ∧ w'.cell? ⟨b, (jp + 1) * 4 + 1, none⟩ = some (.int .i64 x.1.time) ∧ w'.cell? ⟨b, (jp + 1) * 4 + 2, none⟩ = some (.slice x.2.1 x.1.labs.length x.2.2) ∧ w'.cell? ⟨b, (jp + 1) * 4 + 3, none⟩ = some (.string ⟨x.1.line.toArray⟩) ∧ w'.cell? ⟨b, jp * 4, none⟩ = some (.int .i64 y.1.seq) ∧ w'.cell? ⟨b, jp * 4 + 1, none⟩ = some (.int .i64 y.1.time) ∧ w'.cell? ⟨b, jp * 4 + 2, none⟩ = some (.slice y.2.1 y.1.labs.length y.2.2) ∧ w'.cell? ⟨b, jp * 4 + 3, none⟩ = some (.string ⟨y.1.line.toArray⟩)) (exact hk)
              (first | (go_at_call 23; refine (HC2 _ hk.1).mono ?_; rintro e w1 ⟨rfl, b1⟩; have hk := mkS _ (hk.1.trans (b1.mono hk.1.size))))
            have hw1 := hk.1
            clear hk mkS
            have hr1 := AR.out.below (show Below wi.heap.size wi _ from hw1)
            have HR1 := hid hr1
            clear hr1
            go_wp2_with fail
            go_roundw
            obtain ⟨p1, p2, p3⟩ := PLF (by rw [hlx.out]; exact decide_eq_false (by omega)) _ HR1.out
            case rel => exact ⟨t + 1, (M0 ++ [y]) ++ x :: M2, by go_num, by omega, by omega, p1, p2, p3, hid (.inl (by have := HLT.out; omega)), World.grownBy.trans hg3 (below_grown hw1 _)⟩
            case measure => simp [intOf]; omega
    · have hnl : ¬ (a : Int) + (t : Int) < (c : Int) := by have := HC.out; omega
      have hd : X.drop t = [] := List.drop_eq_nil_of_le (by omega)
      have ht : X.take t = X := List.take_of_length_le (by omega)
      rw [hd, List.append_nil] at hr
      have HM3 := HM.out
      rw [ht] at HM3
      have HM4 := hid HM3
      clear hd ht HM HM3 HL HT hlt
      go_wp2
      go_end0
      exact ⟨rfl, ⟨M, by simpa only [List.append_assoc] using hr, HM4.out⟩, hg⟩
end Go.Proofs.YtaoeabnpmpimgaaDoor
end
section
namespace Go.Proofs.YtaoeabnpmpimgaaDoor
open Go.RowKit Go.Icz
set_option maxHeartbeats 2000000 in
set_option maxRecDepth 100000 in
theorem symMerge_oneN (b cap N a m c : Nat) (A : List EV) (x : EV) (R B : List EV) (w : World) (hN : A.length + 1 + R.length + B.length = N) (hR : RowN w b (A ++ x :: R ++ B)) (ha : a = A.length) (hm : m = a + 1) (hc : c = m + R.length) (hS : SortedL ltEL R) (hlen : N ≤ 1152921504606846976) :
    Calls Tryd.prog 68 #[.slice (some ⟨b, 0, none⟩) N cap, .int .i64 a, .int .i64 m, .int .i64 c, cmpG 23] w fun e w' => e = .returned (.tuple #[]) ∧ (∃ M, RowN w' b (A ++ M ++ B) ∧ StableOf ltEL (x :: R) M) ∧ w.grownBy w' (some b) := by
  have HN := hid hN
  have HA := hid ha
  have HC := hid hc
  have hcN : c ≤ N := by omega
  have hmc : m ≤ c := by omega
  have HMM := hid hm
  have hma : (m : Int) - (a : Int) = 1 := by omega
  have ham : a < m := by omega
  have hS := hid hS
  clear hN ha hc hm
  unfold cmpG
  go_enter Tryd.func68, Tryd.ntmps68
  go_wp2
  go_loopw [10, 11] (fun iv jv wr => ∃ (i j : Nat) (R1 Q R2 : List EV), iv = .int .i64 (i : Int) ∧ jv = .int .i64 (j : Int) ∧ Hid (R = R1 ++ Q ++ R2) ∧ Hid (i = m + R1.length) ∧ Hid (j = i + Q.length) ∧ i ≤ j ∧ j ≤ c ∧ Hid (∀ y ∈ R1, ltEL y x = true) ∧ Hid (∀ y ∈ R2, ltEL y x = false) ∧ RowN wr b (A ++ x :: R ++ B) ∧ w.grownBy wr (some b)) (fun iv jv _ => (intOf jv).toNat - (intOf iv).toNat)
  case atStart => exact ⟨m, c, [], R, [], rfl, rfl, hid (by simp), hid (by simp), hid (by rw [HC.out]), by omega, by omega, hid (by simp), hid (by simp), hR, World.grownBy.refl _ _⟩
  case round =>
    obtain ⟨i, j, R1, Q, R2, rfl, rfl, HQ, HI, HJ, hij, hjc, H1, H2, hr, hg⟩ := hrel
    by_cases hlt : i < j
    · have hlt' : (i : Int) < (j : Int) := by omega
      obtain ⟨h, hh0⟩ : ∃ h, h = (i + j) / 2 := ⟨_, rfl⟩
      have zh : Hid (((i : Int) + (j : Int)) / 2 = (h : Int)) := hid (by omega)
      have hih : i ≤ h := by omega
      have hhj : h < j := by omega
      have hhN : h < N := by omega
      have haN : a < N := by omega
      have hql : h - i < Q.length := by have := HJ.out; omega
      have HQ2 : Hid (Q = Q.take (h - i) ++ Q[h - i] :: Q.drop (h - i + 1)) := hid (by rw [← List.drop_eq_getElem_cons hql, List.take_append_drop])
      have HQL : Hid ((Q.take (h - i)).length = h - i ∧ (Q.drop (h - i + 1)).length = j - h - 1) := hid ⟨by rw [List.length_take]; omega, by rw [List.length_drop]; have := HJ.out; omega⟩
      generalize Q.take (h - i) = Q1 at *
      generalize Q[h - i] = z at *
      generalize Q.drop (h - i + 1) = Q2 at *
      have HRS : Hid (R = (R1 ++ Q1) ++ z :: (Q2 ++ R2)) := hid (by rw [HQ.out, HQ2.out]; simp only [List.append_assoc, List.cons_append])
      have gz : (A ++ x :: R ++ B)[h]? = some z := by
        have e : A ++ x :: R ++ B = (A ++ x :: (R1 ++ Q1)) ++ z :: (Q2 ++ R2 ++ B) := by rw [HRS.out]; simp only [List.append_assoc, List.cons_append]
        rw [e]
        refine at_len ?_
        have h1 := HI.out
        have h2 := HQL.out.1
        have h3 := HA.out
        have h4 := HMM.out
        simp only [List.length_append, List.length_cons]
        omega
      have gx : (A ++ x :: R ++ B)[a]? = some x := by
        rw [List.append_assoc, List.cons_append]
        exact at_len HA.out
      obtain ⟨x0, x1, x2, x3, -, -, -, -⟩ := hr.at gx
      have LBgx := hid (hr.lab gx)
      obtain ⟨y0, y1, y2, y3, -, -, -, -⟩ := hr.at gz
      have LBgz := hid (hr.lab gz)
      have hbz := hr.1.1
      have mkS : ∀ w', Below wr.heap.size wr w' → Below wr.heap.size wr w' ∧ w'.cell? ⟨b, h * 4, none⟩ = some (.int .i64 z.1.seq) ∧ w'.cell? ⟨b, h * 4 + 1, none⟩ = some (.int .i64 z.1.time) ∧ w'.cell? ⟨b, h * 4 + 2, none⟩ = some (.slice z.2.1 z.1.labs.length z.2.2) ∧ w'.cell? ⟨b, h * 4 + 3, none⟩ = some (.string ⟨z.1.line.toArray⟩) ∧ w'.cell? ⟨b, a * 4, none⟩ = some (.int .i64 x.1.seq) ∧ w'.cell? ⟨b, a * 4 + 1, none⟩ = some (.int .i64 x.1.time) ∧ w'.cell? ⟨b, a * 4 + 2, none⟩ = some (.slice x.2.1 x.1.labs.length x.2.2) ∧ w'.cell? ⟨b, a * 4 + 3, none⟩ = some (.string ⟨x.1.line.toArray⟩) := fun w' hh => ⟨hh, (hh.cell (p := ⟨b, h * 4, none⟩) hbz).trans y0, (hh.cell (p := ⟨b, h * 4 + 1, none⟩) hbz).trans y1, (hh.cell (p := ⟨b, h * 4 + 2, none⟩) hbz).trans y2, (hh.cell (p := ⟨b, h * 4 + 3, none⟩) hbz).trans y3, (hh.cell (p := ⟨b, a * 4, none⟩) hbz).trans x0, (hh.cell (p := ⟨b, a * 4 + 1, none⟩) hbz).trans x1, (hh.cell (p := ⟨b, a * 4 + 2, none⟩) hbz).trans x2, (hh.cell (p := ⟨b, a * 4 + 3, none⟩) hbz).trans x3⟩
      have hk := mkS wr.drew (Below.refl _ _).drew
      have HC2 := fun w1 (h9 : Below wr.heap.size wr w1) => cmp_callN (b := b) z x w1 (LabW.below LBgz.out h9) (LabW.below LBgx.out h9)
      have HRR := hid hr
      have hlz : Hid (ltEL z x = decide (cmpEL z.1 x.1 < 0)) := hid rfl
      clear x0 x1 x2 x3 y0 y1 y2 y3 gx gz hr hql
      generalize cmpEL z.1 x.1 = cv at *
      subst hh0
      have z0 : (0 : Int) ≤ ((i : Int) + (j : Int)) / 2 := by omega
      have zl : ((i : Int) + (j : Int)) / 2 < (N : Int) := by omega
      have zn : (((i : Int) + (j : Int)) / 2).toNat = (i + j) / 2 := by omega
      clear zh
      have z2 : (a : Int) < (N : Int) := by omega
      by_cases hcv : cv < 0
      · have HZ : Hid (ltEL z x = true) := hid (by rw [hlz.out]; exact decide_eq_true hcv)
        go_wp2_with fail
        go_region_held3 (fun w' => Below wr.heap.size wr w' ∧ w'.cell? ⟨b, ((i + j) / 2) * 4, none⟩ = some (.int .i64 z.1.seq) ∧ w'.cell? ⟨b, ((i + j) / 2) * 4 + 1, none⟩ = some (.int .i64 z.1.time) ∧ w'.cell? ⟨b, ((i + j) / 2) * 4 + 2, none⟩ = some (.slice z.2.1 z.1.labs.length z.2.2) ∧ w'.cell? ⟨b, ((i + j) / 2) * 4 + 3, none⟩ = some (.string ⟨z.1.line.toArray⟩) ∧ w'.cell? ⟨b, a * 4, none⟩ = some (.int .i64 x.1.seq) ∧ w'.cell? ⟨b, a * 4 + 1, none⟩ = some (.int .i64 x.1.time) ∧ w'.cell? ⟨b, a * 4 + 2, none⟩ = some (.slice x.2.1 x.1.labs.length x.2.2) ∧ w'.cell? ⟨b, a * 4 + 3, none⟩ = some (.string ⟨x.1.line.toArray⟩)) (exact hk)
          (first | (go_at_call 23; refine (HC2 _ hk.1).mono ?_; rintro e w1 ⟨rfl, b1⟩; have hk := mkS _ (hk.1.trans (b1.mono hk.1.size))))
        have hw1 := hk.1
        clear hk mkS
        go_wp2_with fail
        go_roundw
        case rel =>
          refine ⟨(i + j) / 2 + 1, j, R1 ++ Q1 ++ [z], Q2, R2, by go_num, rfl, hid (by rw [HRS.out]; simp only [List.append_assoc, List.cons_append, List.nil_append]), hid ?_, hid ?_, by omega, hjc, hid ?_, H2, HRR.out.below hw1, World.grownBy.trans hg (below_grown hw1 _)⟩
          · have h1 := HI.out
            have h2 := HQL.out.1
            simp only [List.length_append, List.length_singleton]
            omega
          · have h2 := HQL.out.2
            omega
          · have hs := hS.out
            rw [HRS.out] at hs
            intro y hy
            rcases List.mem_append.1 hy with hy | hy
            · rcases List.mem_append.1 hy with hy | hy
              · exact H1.out y hy
              · have h1 := (SortedL.append_iff.1 hs).2.2 y (List.mem_append.2 (.inr hy)) z (List.mem_cons_self ..)
                rcases ltEL_ord.neg z y x HZ.out with h5 | h5
                · rw [h1] at h5; cases h5
                · exact h5
            · obtain rfl := List.mem_singleton.1 hy
              exact HZ.out
        case measure => simp [intOf]; omega
      · have HZ : Hid (ltEL z x = false) := hid (by rw [hlz.out]; exact decide_eq_false hcv)
        go_wp2_with fail
        go_region_held3 (fun w' => Below wr.heap.size wr w' ∧ w'.cell? ⟨b, ((i + j) / 2) * 4, none⟩ = some (.int .i64 z.1.seq) ∧ w'.cell? ⟨b, ((i + j) / 2) * 4 + 1, none⟩ = some (.int .i64 z.1.time) ∧ w'.cell? ⟨b, ((i + j) / 2) * 4 + 2, none⟩ = some (.slice z.2.1 z.1.labs.length z.2.2) ∧ w'.cell? ⟨b, ((i + j) / 2) * 4 + 3, none⟩ = some (.string ⟨z.1.line.toArray⟩) ∧ w'.cell? ⟨b, a * 4, none⟩ = some (.int .i64 x.1.seq) ∧ w'.cell? ⟨b, a * 4 + 1, none⟩ = some (.int .i64 x.1.time) ∧ w'.cell? ⟨b, a * 4 + 2, none⟩ = some (.slice x.2.1 x.1.labs.length x.2.2) ∧ w'.cell? ⟨b, a * 4 + 3, none⟩ = some (.string ⟨x.1.line.toArray⟩)) (exact hk)
          (first | (go_at_call 23; refine (HC2 _ hk.1).mono ?_; rintro e w1 ⟨rfl, b1⟩; have hk := mkS _ (hk.1.trans (b1.mono hk.1.size))))
        have hw1 := hk.1
        clear hk mkS
        go_wp2_with fail
        go_roundw
        case rel =>
          refine ⟨i, (i + j) / 2, R1, Q1, z :: Q2 ++ R2, rfl, by go_num, hid (by rw [HRS.out]; simp only [List.append_assoc, List.cons_append]), HI, hid ?_, by omega, by omega, H1, hid ?_, HRR.out.below hw1, World.grownBy.trans hg (below_grown hw1 _)⟩
          · have h2 := HQL.out.1
            omega
          · have hs := hS.out
            rw [HRS.out] at hs
            intro y hy
            have hy' : y = z ∨ y ∈ Q2 ∨ y ∈ R2 := by simpa [or_assoc] using hy
            rcases hy' with rfl | hy | hy
            · exact HZ.out
            · have h1 := (List.pairwise_cons.1 (SortedL.append_iff.1 hs).2.1).1 y (List.mem_append.2 (.inl hy))
              cases e : ltEL y x with
              | false => rfl
              | true =>
                rcases ltEL_ord.neg y z x e with h5 | h5
                · rw [h1] at h5; cases h5
                · rw [HZ.out] at h5; cases h5
            · exact H2.out y hy
        case measure => simp [intOf]; omega
    · have hn : ¬ (i : Int) < (j : Int) := by omega
      have hq0 : Q = [] := List.eq_nil_of_length_eq_zero (by have := HJ.out; omega)
      have HRS : Hid (R = R1 ++ R2) := hid (by rw [HQ.out, hq0]; simp)
      have hi2 : i = a + 1 + R1.length := by have := HI.out; have := HMM.out; omega
      have HI2 := hid hi2
      have hiN : i ≤ N := by omega
      have hi1 : 1 ≤ i := by omega
      clear hq0 HQ HJ hi2
      go_wp2
      generalize wr = wo at *
      go_loopw [13] (fun kv wi => ∃ (k t : Nat), kv = .int .i64 (k : Int) ∧ Hid (k = a + t) ∧ Hid (t ≤ R1.length) ∧ k + 1 ≤ i ∧ RowN wi b (A ++ R1.take t ++ x :: R1.drop t ++ R2 ++ B) ∧ w.grownBy wi (some b)) (fun kv _ => i - (intOf kv).toNat)
      case atStart => exact ⟨a, 0, rfl, hid (by omega), hid (by omega), by have := HI2.out; omega, by rw [HRS.out] at hr; simpa using hr, hg⟩
      case round =>
        obtain ⟨k, t, rfl, HK, HT, hki, hr3, hg3⟩ := hrel
        generalize wr = wi at *
        by_cases hlt2 : k + 1 < i
        · have hlt2' : (k : Int) < (i : Int) - 1 := by omega
          have ht : t < R1.length := by have := HK.out; have := HI2.out; omega
          have e1 : A ++ R1.take t ++ x :: R1.drop t ++ R2 ++ B = (A ++ R1.take t) ++ x :: R1[t] :: (R1.drop (t + 1) ++ R2 ++ B) := by
            rw [List.drop_eq_getElem_cons ht]
            simp only [List.append_assoc, List.cons_append]
          have e2 : (A ++ R1.take t) ++ R1[t] :: x :: (R1.drop (t + 1) ++ R2 ++ B) = A ++ R1.take (t + 1) ++ x :: R1.drop (t + 1) ++ R2 ++ B := by
            rw [List.take_succ_eq_append_getElem ht]
            simp only [List.append_assoc, List.cons_append, List.nil_append]
          have hpl : k = (A ++ R1.take t).length := by
            have h1 := HK.out
            have h2 := HA.out
            rw [List.length_append, List.length_take]
            omega
          rw [e1] at hr3
          have HS2 := hid (set_two2 (A ++ R1.take t) (R1.drop (t + 1) ++ R2 ++ B) x R1[t])
          rw [← hpl, e2] at HS2
          have gx : ((A ++ R1.take t) ++ x :: R1[t] :: (R1.drop (t + 1) ++ R2 ++ B))[k]? = some x := at_len hpl
          have gy : ((A ++ R1.take t) ++ x :: R1[t] :: (R1.drop (t + 1) ++ R2 ++ B))[k + 1]? = some R1[t] := by
            have e3 : (A ++ R1.take t) ++ x :: R1[t] :: (R1.drop (t + 1) ++ R2 ++ B) = ((A ++ R1.take t) ++ [x]) ++ R1[t] :: (R1.drop (t + 1) ++ R2 ++ B) := by simp only [List.append_assoc, List.cons_append, List.nil_append]
            rw [e3]
            exact at_len (by rw [List.length_append, ← hpl, List.length_singleton])
          have HT2 := hid ht
          generalize R1[t] = y at *
          clear e1 e2 hpl ht
          obtain ⟨x0, x1, x2, x3, xf0, xf1, xf2, xf3⟩ := hr3.at gx
          have LBgx := hid (hr3.lab gx)
          obtain ⟨y0, y1, y2, y3, yf0, yf1, yf2, yf3⟩ := hr3.at gy
          have LBgy := hid (hr3.lab gy)
          have hlk : Hid (k < _ ∧ k + 1 < _) := hid ⟨(List.getElem?_eq_some_iff.1 gx).1, (List.getElem?_eq_some_iff.1 gy).1⟩
          have HR3 := hid hr3
          clear gx gy hr3
          have zk : IntKind.i64.wrap ((k : Int) + 1) = (k : Int) + 1 := by rw [IntKind.wrap_i64]; omega
          have zkn : ((k : Int) + 1).toNat = k + 1 := by omega
          have zk0 : (0 : Int) ≤ (k : Int) + 1 := by omega
          have zkl : (k : Int) + 1 < (N : Int) := by omega
          have zkl2 : (k : Int) < (N : Int) := by omega
          go_wp2_with fail
          go_region
          go_wp2_with fail
          go_roundw
          case rel =>
            have P := (HR3.out.put k hlk.out.1 y LBgy.out).put (k + 1) (by rw [List.length_set]; exact hlk.out.2) x LBgx.out.put4
            rw [HS2.out] at P
            exact ⟨k + 1, t + 1, by go_num, hid (by have := HK.out; omega), hid (by have := HT2.out; omega), by omega, row_drewN P, World.grownBy.trans hg3 (World.grownBy.trans (World.grownBy.trans (put_grown _ b _ _ _ _ _ _ _ _) (put_grown _ b _ _ _ _ _ _ _ _)) (grown_drew1 _ _))⟩
          case measure => simp [intOf]; omega
        · have hlt2' : ¬ (k : Int) < (i : Int) - 1 := by omega
          have ht : t = R1.length := by have := HK.out; have := HI2.out; have := HT.out; omega
          rw [ht, List.take_length, List.drop_length] at hr3
          have HR4 : Hid (RowN wi b (A ++ (R1 ++ x :: R2) ++ B)) := hid (by simpa only [List.append_assoc, List.cons_append, List.nil_append] using hr3)
          have hs := hS.out
          rw [HRS.out] at hs
          have HF := hid (StableOf.first ltEL_ord hs H1.out H2.out)
          clear hr3 hs ht HT
          go_wp2
          refine bodyPost_ret (results_none rfl _ _ _) rfl ?_
          exact ⟨rfl, ⟨R1 ++ x :: R2, by have h9 := HR4.out; simpa only [List.append_assoc, List.cons_append] using h9, by rw [HRS.out]; exact HF.out⟩, hg3⟩
end Go.Proofs.YtaoeabnpmpimgaaDoor
end
section
namespace Go.Proofs.YtaoeabnpmpimgaaDoor
open Go.RowKit Go.Icz
set_option maxHeartbeats 2000000 in
set_option maxRecDepth 100000 in
theorem symMerge_lastN (b cap N a m c : Nat) (A L : List EV) (y : EV) (B : List EV) (w : World) (hN : A.length + L.length + 1 + B.length = N) (hR : RowN w b (A ++ L ++ y :: B)) (ha : a = A.length) (hm : m = a + L.length) (hc : c = m + 1) (hL : 2 ≤ L.length) (hS : SortedL ltEL L) (hlen : N ≤ 1152921504606846976) :
    Calls Tryd.prog 68 #[.slice (some ⟨b, 0, none⟩) N cap, .int .i64 a, .int .i64 m, .int .i64 c, cmpG 23] w fun e w' => e = .returned (.tuple #[]) ∧ (∃ M, RowN w' b (A ++ M ++ B) ∧ StableOf ltEL (L ++ [y]) M) ∧ w.grownBy w' (some b) := by
  have HN := hid hN
  have HA := hid ha
  have HMM := hid hm
  have hcN : c ≤ N := by omega
  have ham : a + 2 ≤ m := by omega
  have hma : ((m : Int) - (a : Int) == 1) = false := by simp; omega
  have hcm : (c : Int) - (m : Int) = 1 := by omega
  have hmN : m < N := by omega
  have hS := hid hS
  clear hN ha hc hm hL
  unfold cmpG
  go_enter Tryd.func68, Tryd.ntmps68
  go_wp2
  go_loopw [14, 15] (fun iv jv wr => ∃ (i j : Nat) (L1 Q L2 : List EV), iv = .int .i64 (i : Int) ∧ jv = .int .i64 (j : Int) ∧ Hid (L = L1 ++ Q ++ L2) ∧ Hid (i = a + L1.length) ∧ Hid (j = i + Q.length) ∧ i ≤ j ∧ j ≤ m ∧ Hid (∀ z ∈ L1, ltEL y z = false) ∧ Hid (∀ z ∈ L2, ltEL y z = true) ∧ RowN wr b (A ++ L ++ y :: B) ∧ w.grownBy wr (some b)) (fun iv jv _ => (intOf jv).toNat - (intOf iv).toNat)
  case atStart => exact ⟨a, m, [], L, [], rfl, rfl, hid (by simp), hid (by simp), hid (by rw [HMM.out]), by omega, by omega, hid (by simp), hid (by simp), hR, World.grownBy.refl _ _⟩
  case round =>
    obtain ⟨i, j, L1, Q, L2, rfl, rfl, HQ, HI, HJ, hij, hjm, H1, H2, hr, hg⟩ := hrel
    by_cases hlt : i < j
    · have hlt' : (i : Int) < (j : Int) := by omega
      obtain ⟨h, hh0⟩ : ∃ h, h = (i + j) / 2 := ⟨_, rfl⟩
      have hih : i ≤ h := by omega
      have hhj : h < j := by omega
      have hhN : h < N := by omega
      have hql : h - i < Q.length := by have := HJ.out; omega
      have HQ2 : Hid (Q = Q.take (h - i) ++ Q[h - i] :: Q.drop (h - i + 1)) := hid (by rw [← List.drop_eq_getElem_cons hql, List.take_append_drop])
      have HQL : Hid ((Q.take (h - i)).length = h - i ∧ (Q.drop (h - i + 1)).length = j - h - 1) := hid ⟨by rw [List.length_take]; omega, by rw [List.length_drop]; have := HJ.out; omega⟩
      generalize Q.take (h - i) = Q1 at *
      generalize Q[h - i] = z at *
      generalize Q.drop (h - i + 1) = Q2 at *
      have HRS : Hid (L = (L1 ++ Q1) ++ z :: (Q2 ++ L2)) := hid (by rw [HQ.out, HQ2.out]; simp only [List.append_assoc, List.cons_append])
      have gz : (A ++ L ++ y :: B)[h]? = some z := by
        have e : A ++ L ++ y :: B = (A ++ (L1 ++ Q1)) ++ z :: (Q2 ++ L2 ++ y :: B) := by rw [HRS.out]; simp only [List.append_assoc, List.cons_append]
        rw [e]
        refine at_len ?_
        have h1 := HI.out
        have h2 := HQL.out.1
        have h3 := HA.out
        simp only [List.length_append]
        omega
      have gy : (A ++ L ++ y :: B)[m]? = some y := at_len (by have h3 := HA.out; have h4 := HMM.out; rw [List.length_append]; omega)
      obtain ⟨x0, x1, x2, x3, -, -, -, -⟩ := hr.at gz
      have LBgz := hid (hr.lab gz)
      obtain ⟨y0, y1, y2, y3, -, -, -, -⟩ := hr.at gy
      have LBgy := hid (hr.lab gy)
      have hbz := hr.1.1
      have mkS : ∀ w', Below wr.heap.size wr w' → Below wr.heap.size wr w' ∧ w'.cell? ⟨b, h * 4, none⟩ = some (.int .i64 z.1.seq) ∧ w'.cell? ⟨b, h * 4 + 1, none⟩ = some (.int .i64 z.1.time) ∧ w'.cell? ⟨b, h * 4 + 2, none⟩ = some (.slice z.2.1 z.1.labs.length z.2.2) ∧ w'.cell? ⟨b, h * 4 + 3, none⟩ = some (.string ⟨z.1.line.toArray⟩) ∧ w'.cell? ⟨b, m * 4, none⟩ = some (.int .i64 y.1.seq) ∧ w'.cell? ⟨b, m * 4 + 1, none⟩ = some (.int .i64 y.1.time) ∧ w'.cell? ⟨b, m * 4 + 2, none⟩ = some (.slice y.2.1 y.1.labs.length y.2.2) ∧ w'.cell? ⟨b, m * 4 + 3, none⟩ = some (.string ⟨y.1.line.toArray⟩) := fun w' hh => ⟨hh, (hh.cell (p := ⟨b, h * 4, none⟩) hbz).trans x0, (hh.cell (p := ⟨b, h * 4 + 1, none⟩) hbz).trans x1, (hh.cell (p := ⟨b, h * 4 + 2, none⟩) hbz).trans x2, (hh.cell (p := ⟨b, h * 4 + 3, none⟩) hbz).trans x3, (hh.cell (p := ⟨b, m * 4, none⟩) hbz).trans y0, (hh.cell (p := ⟨b, m * 4 + 1, none⟩) hbz).trans y1, (hh.cell (p := ⟨b, m * 4 + 2, none⟩) hbz).trans y2, (hh.cell (p := ⟨b, m * 4 + 3, none⟩) hbz).trans y3⟩
      have hk := mkS wr.drew (Below.refl _ _).drew
      have HC2 := fun w1 (h9 : Below wr.heap.size wr w1) => cmp_callN (b := b) y z w1 (LabW.below LBgy.out h9) (LabW.below LBgz.out h9)
      have HRR := hid hr
      have hlz : Hid (ltEL y z = decide (cmpEL y.1 z.1 < 0)) := hid rfl
      clear x0 x1 x2 x3 y0 y1 y2 y3 gy gz hr hql
      generalize cmpEL y.1 z.1 = cv at *
      subst hh0
      have z0 : (0 : Int) ≤ ((i : Int) + (j : Int)) / 2 := by omega
      have zl : ((i : Int) + (j : Int)) / 2 < (N : Int) := by omega
      have zn : (((i : Int) + (j : Int)) / 2).toNat = (i + j) / 2 := by omega
      have z2 : (m : Int) < (N : Int) := by omega
      by_cases hcv : cv < 0
      · have HZ : Hid (ltEL y z = true) := hid (by rw [hlz.out]; exact decide_eq_true hcv)
        have hcd : decide (cv < 0) = true := decide_eq_true hcv
        go_wp2_with fail
        go_region_held3 (fun w' => Below wr.heap.size wr w' ∧ w'.cell? ⟨b, ((i + j) / 2) * 4, none⟩ = some (.int .i64 z.1.seq) ∧ w'.cell? ⟨b, ((i + j) / 2) * 4 + 1, none⟩ = some (.int .i64 z.1.time) ∧ w'.cell? ⟨b, ((i + j) / 2) * 4 + 2, none⟩ = some (.slice z.2.1 z.1.labs.length z.2.2) ∧ w'.cell? ⟨b, ((i + j) / 2) * 4 + 3, none⟩ = some (.string ⟨z.1.line.toArray⟩) ∧ w'.cell? ⟨b, m * 4, none⟩ = some (.int .i64 y.1.seq) ∧ w'.cell? ⟨b, m * 4 + 1, none⟩ = some (.int .i64 y.1.time) ∧ w'.cell? ⟨b, m * 4 + 2, none⟩ = some (.slice y.2.1 y.1.labs.length y.2.2) ∧ w'.cell? ⟨b, m * 4 + 3, none⟩ = some (.string ⟨y.1.line.toArray⟩)) (exact hk)
          (first | (go_at_call 23; refine (HC2 _ hk.1).mono ?_; rintro e w1 ⟨rfl, b1⟩; have hk := mkS _ (hk.1.trans (b1.mono hk.1.size))))
        have hw1 := hk.1
        clear hk mkS
        go_wp2_with fail
        go_roundw
        case rel =>
          refine ⟨i, (i + j) / 2, L1, Q1, z :: Q2 ++ L2, rfl, by go_num, hid (by rw [HRS.out]; simp only [List.append_assoc, List.cons_append]), HI, hid ?_, by omega, by omega, H1, hid ?_, HRR.out.below hw1, World.grownBy.trans hg (below_grown hw1 _)⟩
          · have h2 := HQL.out.1
            omega
          · have hs := hS.out
            rw [HRS.out] at hs
            intro q hq
            have hq' : q = z ∨ q ∈ Q2 ∨ q ∈ L2 := by simpa [or_assoc] using hq
            rcases hq' with rfl | hq | hq
            · exact HZ.out
            · have h1 := (List.pairwise_cons.1 (SortedL.append_iff.1 hs).2.1).1 q (List.mem_append.2 (.inl hq))
              rcases ltEL_ord.neg y q z HZ.out with h5 | h5
              · exact h5
              · rw [h1] at h5; cases h5
            · exact H2.out q hq
        case measure => simp [intOf]; omega
      · have HZ : Hid (ltEL y z = false) := hid (by rw [hlz.out]; exact decide_eq_false hcv)
        have hcd : decide (cv < 0) = false := decide_eq_false hcv
        go_wp2_with fail
        go_region_held3 (fun w' => Below wr.heap.size wr w' ∧ w'.cell? ⟨b, ((i + j) / 2) * 4, none⟩ = some (.int .i64 z.1.seq) ∧ w'.cell? ⟨b, ((i + j) / 2) * 4 + 1, none⟩ = some (.int .i64 z.1.time) ∧ w'.cell? ⟨b, ((i + j) / 2) * 4 + 2, none⟩ = some (.slice z.2.1 z.1.labs.length z.2.2) ∧ w'.cell? ⟨b, ((i + j) / 2) * 4 + 3, none⟩ = some (.string ⟨z.1.line.toArray⟩) ∧ w'.cell? ⟨b, m * 4, none⟩ = some (.int .i64 y.1.seq) ∧ w'.cell? ⟨b, m * 4 + 1, none⟩ = some (.int .i64 y.1.time) ∧ w'.cell? ⟨b, m * 4 + 2, none⟩ = some (.slice y.2.1 y.1.labs.length y.2.2) ∧ w'.cell? ⟨b, m * 4 + 3, none⟩ = some (.string ⟨y.1.line.toArray⟩)) (exact hk)
          (first | (go_at_call 23; refine (HC2 _ hk.1).mono ?_; rintro e w1 ⟨rfl, b1⟩; have hk := mkS _ (hk.1.trans (b1.mono hk.1.size))))
        have hw1 := hk.1
        clear hk mkS
        go_wp2_with fail
        go_roundw
        case rel =>
          refine ⟨(i + j) / 2 + 1, j, L1 ++ Q1 ++ [z], Q2, L2, by go_num, rfl, hid (by rw [HRS.out]; simp only [List.append_assoc, List.cons_append, List.nil_append]), hid ?_, hid ?_, by omega, hjm, hid ?_, H2, HRR.out.below hw1, World.grownBy.trans hg (below_grown hw1 _)⟩
          · have h1 := HI.out
            have h2 := HQL.out.1
            simp only [List.length_append, List.length_singleton]
            omega
          · have h2 := HQL.out.2
            omega
          · have hs := hS.out
            rw [HRS.out] at hs
            intro q hq
            rcases List.mem_append.1 hq with hq | hq
            · rcases List.mem_append.1 hq with hq | hq
              · exact H1.out q hq
              · exact SWOrd.le_trans ltEL_ord ((SortedL.append_iff.1 hs).2.2 q (List.mem_append.2 (.inr hq)) z (List.mem_cons_self ..)) HZ.out
            · obtain rfl := List.mem_singleton.1 hq
              exact HZ.out
        case measure => simp [intOf]; omega
    · have hn : ¬ (i : Int) < (j : Int) := by omega
      have hq0 : Q = [] := List.eq_nil_of_length_eq_zero (by have := HJ.out; omega)
      have HRS : Hid (L = L1 ++ L2) := hid (by rw [HQ.out, hq0]; simp)
      have HI2 : Hid (i = a + L1.length) := HI
      have HML : Hid (m = i + L2.length) := hid (by have h1 := HMM.out; have h2 := HRS.out; have h3 := HI.out; rw [h2, List.length_append] at h1; omega)
      have hiN : i ≤ m := by have := HML.out; omega
      clear hq0 HQ HJ
      go_wp2
      generalize wr = wo at *
      go_loopw [17] (fun kv wi => ∃ (k s : Nat), kv = .int .i64 (k : Int) ∧ Hid (k = i + s) ∧ Hid (s ≤ L2.length) ∧ i ≤ k ∧ k ≤ m ∧ RowN wi b (A ++ L1 ++ L2.take s ++ y :: L2.drop s ++ B) ∧ w.grownBy wi (some b)) (fun kv _ => (intOf kv).toNat)
      case atStart => exact ⟨m, L2.length, rfl, HML, hid (Nat.le_refl _), hiN, Nat.le_refl _, by rw [HRS.out] at hr; simpa using hr, hg⟩
      case round =>
        obtain ⟨k, s, rfl, HK, HT, hki, hkm, hr3, hg3⟩ := hrel
        generalize wr = wi at *
        by_cases hlt2 : i < k
        · obtain ⟨jp, hjp⟩ : ∃ jp, k = jp + 1 := ⟨k - 1, by omega⟩
          obtain ⟨s', hs'⟩ : ∃ s', s = s' + 1 := ⟨s - 1, by have := HK.out; omega⟩
          subst hjp hs'
          have ht : s' < L2.length := by have := HT.out; omega
          have e1 : A ++ L1 ++ L2.take (s' + 1) ++ y :: L2.drop (s' + 1) ++ B = (A ++ L1 ++ L2.take s') ++ L2[s'] :: y :: (L2.drop (s' + 1) ++ B) := by
            rw [List.take_succ_eq_append_getElem ht]
            simp only [List.append_assoc, List.cons_append, List.nil_append]
          have e2 : (A ++ L1 ++ L2.take s') ++ y :: L2[s'] :: (L2.drop (s' + 1) ++ B) = A ++ L1 ++ L2.take s' ++ y :: L2.drop s' ++ B := by
            rw [List.drop_eq_getElem_cons ht]
            simp only [List.append_assoc, List.cons_append]
          have hpl : jp = (A ++ L1 ++ L2.take s').length := by
            have h1 := HK.out
            have h2 := HA.out
            have h3 := HI2.out
            rw [List.length_append, List.length_append, List.length_take]
            omega
          rw [e1] at hr3
          have HS2 := hid (set_two (A ++ L1 ++ L2.take s') (L2.drop (s' + 1) ++ B) y L2[s'])
          rw [← hpl, e2] at HS2
          have gx : ((A ++ L1 ++ L2.take s') ++ L2[s'] :: y :: (L2.drop (s' + 1) ++ B))[jp]? = some L2[s'] := at_len hpl
          have gy : ((A ++ L1 ++ L2.take s') ++ L2[s'] :: y :: (L2.drop (s' + 1) ++ B))[jp + 1]? = some y := by
            have e3 : (A ++ L1 ++ L2.take s') ++ L2[s'] :: y :: (L2.drop (s' + 1) ++ B) = ((A ++ L1 ++ L2.take s') ++ [L2[s']]) ++ y :: (L2.drop (s' + 1) ++ B) := by simp only [List.append_assoc, List.cons_append, List.nil_append]
            rw [e3]
            exact at_len (by rw [List.length_append, ← hpl, List.length_singleton])
          generalize L2[s'] = z at *
          have HT2 := hid ht
          clear e1 e2 hpl ht
          obtain ⟨x0, x1, x2, x3, xf0, xf1, xf2, xf3⟩ := hr3.at gx
          have LBgx := hid (hr3.lab gx)
          obtain ⟨y0, y1, y2, y3, yf0, yf1, yf2, yf3⟩ := hr3.at gy
          have LBgy := hid (hr3.lab gy)
          have hlk : Hid (jp < _ ∧ jp + 1 < _) := hid ⟨(List.getElem?_eq_some_iff.1 gx).1, (List.getElem?_eq_some_iff.1 gy).1⟩
          have HR3 := hid hr3
          clear gx gy hr3
          have hik : (i : Int) < (jp : Int) + 1 := by omega
          have zj : IntKind.i64.wrap (jp : Int) = (jp : Int) := by rw [IntKind.wrap_i64]; omega
          have zj0 : (0 : Int) ≤ (jp : Int) + 1 := by omega
          have zjl : (jp : Int) + 1 < (N : Int) := by omega
          have zjl2 : (jp : Int) < (N : Int) := by omega
          have zjn : ((jp : Int) + 1).toNat = jp + 1 := by omega
          go_wp2_with fail
          go_region
          go_wp2_with fail
          go_roundw
          case rel =>
            have P := (HR3.out.put (jp + 1) hlk.out.2 z LBgx.out).put jp (by rw [List.length_set]; exact hlk.out.1) y LBgy.out.put4
            rw [HS2.out] at P
            exact ⟨jp, s', rfl, hid (by have := HK.out; omega), hid (by have := HT2.out; omega), by omega, by omega, row_drewN P, World.grownBy.trans hg3 (World.grownBy.trans (World.grownBy.trans (put_grown _ b _ _ _ _ _ _ _ _) (put_grown _ b _ _ _ _ _ _ _ _)) (grown_drew1 _ _))⟩
          case measure => simp [intOf]
        · have hlt2' : ¬ (i : Int) < (k : Int) := by omega
          have ht : s = 0 := by have := HK.out; omega
          rw [ht, List.take_zero, List.drop_zero, List.append_nil] at hr3
          have HR4 : Hid (RowN wi b (A ++ (L1 ++ y :: L2) ++ B)) := hid (by simpa only [List.append_assoc, List.cons_append, List.nil_append] using hr3)
          have hs := hS.out
          rw [HRS.out] at hs
          have HF := hid (StableOf.last ltEL_ord hs H1.out H2.out)
          clear hr3 hs ht HT
          go_wp2
          refine bodyPost_ret (results_none rfl _ _ _) rfl ?_
          exact ⟨rfl, ⟨L1 ++ y :: L2, by have h9 := HR4.out; simpa only [List.append_assoc, List.cons_append] using h9, by rw [HRS.out]; exact HF.out⟩, hg3⟩
end Go.Proofs.YtaoeabnpmpimgaaDoor
end
section
namespace Go.Icz
open Go.RowKit
theorem sorted_atN {l : List EV} (h : SortedL ltEL l) {i j : Nat} {x y : EV} (hi : l[i]? = some x) (hj : l[j]? = some y) (hij : i ≤ j) : ltEL y x = false := by
  rcases Nat.lt_or_ge i j with hlt | hge
  · obtain ⟨h1, e1⟩ := List.getElem?_eq_some_iff.1 hi
    obtain ⟨h2, e2⟩ := List.getElem?_eq_some_iff.1 hj
    have := List.pairwise_iff_getElem.1 h i j h1 h2 hlt
    rw [e1, e2] at this
    exact this
  · obtain rfl : i = j := by omega
    rw [hi] at hj
    injection hj with e
    subst e
    exact ltEL_ord.irr _
/-- What the search knows at place u: below it no, from it on yes. -/
theorem cut_halvesN {L R : List EV} (hL : SortedL ltEL L) (hR : SortedL ltEL R) {h u lo hi : Nat} (h1 : lo ≤ u) (h2 : u ≤ hi) (h3 : hi ≤ L.length) (h4 : hi ≤ h) (h5 : h ≤ lo + R.length)
    (hlo : u = lo → lo = 0 ∨ h - lo = R.length) (hhi : u = hi → hi = L.length ∨ hi = h)
    (n : ∀ k x y, lo ≤ k → k < u → L[k]? = some x → R[h - 1 - k]? = some y → ltEL y x = false)
    (p : ∀ k x y, u ≤ k → k < hi → L[k]? = some x → R[h - 1 - k]? = some y → ltEL y x = true) :
    (∀ y ∈ R.take (h - u), ∀ x ∈ L.drop u, ltEL y x = true) ∧ (∀ x ∈ L.take u, ∀ y ∈ R.drop (h - u), ltEL y x = false) := by
  constructor
  · intro y hy x hx
    obtain ⟨i, hi0, ei⟩ := List.mem_iff_getElem.1 hy
    obtain ⟨j, hj0, ej⟩ := List.mem_iff_getElem.1 hx
    rw [List.length_take] at hi0
    rw [List.length_drop] at hj0
    rw [List.getElem_take] at ei
    rw [List.getElem_drop] at ej
    have hu : u < hi := by
      rcases Nat.lt_or_ge u hi with h6 | h6
      · exact h6
      · have := hhi (by omega)
        omega
    have gL : L[u]? = some L[u] := List.getElem?_eq_getElem (by omega)
    have gR : R[h - 1 - u]? = some R[h - 1 - u] := List.getElem?_eq_getElem (by omega)
    have key := p u _ _ (Nat.le_refl _) hu gL gR
    have a1 := sorted_atN hR (i := i) (j := h - 1 - u) (by rw [List.getElem?_eq_getElem (by omega), ei]) gR (by omega)
    have a2 := sorted_atN hL (i := u) (j := u + j) gL (by rw [List.getElem?_eq_getElem (by omega), ej]) (by omega)
    rcases ltEL_ord.neg _ y _ key with h6 | h6
    · rw [a1] at h6; cases h6
    · rcases ltEL_ord.neg _ x _ h6 with h7 | h7
      · exact h7
      · rw [a2] at h7; cases h7
  · intro x hx y hy
    obtain ⟨j, hj0, ej⟩ := List.mem_iff_getElem.1 hx
    obtain ⟨i, hi0, ei⟩ := List.mem_iff_getElem.1 hy
    rw [List.length_take] at hj0
    rw [List.length_drop] at hi0
    rw [List.getElem_take] at ej
    rw [List.getElem_drop] at ei
    have hu : lo < u := by
      rcases Nat.lt_or_ge lo u with h6 | h6
      · exact h6
      · have := hlo (by omega)
        omega
    have gL : L[u - 1]? = some L[u - 1] := List.getElem?_eq_getElem (by omega)
    have gR : R[h - 1 - (u - 1)]? = some R[h - 1 - (u - 1)] := List.getElem?_eq_getElem (by omega)
    have key := n (u - 1) _ _ (by omega) (by omega) gL gR
    have a1 := sorted_atN hR (i := h - 1 - (u - 1)) (j := h - u + i) gR (by rw [List.getElem?_eq_getElem (by omega), ei]) (by omega)
    have a2 := sorted_atN hL (i := j) (j := u - 1) (by rw [List.getElem?_eq_getElem (by omega), ej]) gL (by omega)
    exact SWOrd.le_trans ltEL_ord a2 (SWOrd.le_trans ltEL_ord key a1)
/-- One question of the search answers for all on its side. -/
theorem cut_noN {L R : List EV} (hL : SortedL ltEL L) (hR : SortedL ltEL R) {h c : Nat} {x y : EV} (gx : L[c]? = some x) (gy : R[h - 1 - c]? = some y) (hn : ltEL y x = false) (hc : c < h) :
    ∀ k x' y', k ≤ c → L[k]? = some x' → R[h - 1 - k]? = some y' → ltEL y' x' = false := fun k x' y' hk g1 g2 =>
  SWOrd.le_trans ltEL_ord (sorted_atN hL g1 gx hk) (SWOrd.le_trans ltEL_ord hn (sorted_atN hR gy g2 (by omega)))
theorem cut_yesN {L R : List EV} (hL : SortedL ltEL L) (hR : SortedL ltEL R) {h c : Nat} {x y : EV} (gx : L[c]? = some x) (gy : R[h - 1 - c]? = some y) (hp : ltEL y x = true) :
    ∀ k x' y', c ≤ k → L[k]? = some x' → R[h - 1 - k]? = some y' → ltEL y' x' = true := fun k x' y' hk g1 g2 => by
  have a1 := sorted_atN hR g2 gy (by omega)
  have a2 := sorted_atN hL gx g1 hk
  rcases ltEL_ord.neg _ y' _ hp with h6 | h6
  · rw [a1] at h6; cases h6
  · rcases ltEL_ord.neg _ x' _ h6 with h7 | h7
    · exact h7
    · rw [a2] at h7; cases h7
end Go.Icz
namespace Go.Proofs.YtaoeabnpmpimgaaDoor
open Go.RowKit Go.Icz
/-- What symMerge does, of lists of so many elements together. -/
def SymAllN (n : Nat) : Prop := ∀ (b cap N a m c : Nat) (A L R B : List EV) (w : World), L.length + R.length ≤ n → A.length + L.length + R.length + B.length = N → RowN w b (A ++ L ++ R ++ B) → a = A.length → m = a + L.length → c = m + R.length → 0 < L.length → 0 < R.length → SortedL ltEL L → SortedL ltEL R → N ≤ 1152921504606846976 →
  Calls Tryd.prog 68 #[.slice (some ⟨b, 0, none⟩) N cap, .int .i64 a, .int .i64 m, .int .i64 c, cmpG 23] w fun e w' => e = .returned (.tuple #[]) ∧ (∃ M, RowN w' b (A ++ M ++ B) ∧ StableOf ltEL (L ++ R) M) ∧ w.grownBy w' (some b)
end Go.Proofs.YtaoeabnpmpimgaaDoor
end
