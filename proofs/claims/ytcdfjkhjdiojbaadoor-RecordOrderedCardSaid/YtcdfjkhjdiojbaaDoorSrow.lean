/-
  Entries in a row that is sorted: two of them change places; slices.swapRangeCmpFunc. Conditions: those that each theorem names.
-/
import Derived.Test.YtcdfjkhjdiojbaaDoorStable
import Derived.Test.YtcdfjkhjdiojbaaDoorEntCmp
import Derived.Test.YtcdfjkhjdiojbaaDoorDec
namespace Go.Icz
open Go.RowKit
/-- An entry, and where its labels lie. -/
abbrev EV := Ent × Option Addr × Nat
/-- The row in block b holds the entries l. -/
def RowE (w : World) (b : Nat) (l : List EV) : Prop :=
  b < w.heap.size ∧ ∀ j (hj : j < l.length), w.cell? ⟨b, j * 4, none⟩ = some (.int .i64 (l[j]).1.seq) ∧ w.cell? ⟨b, j * 4 + 1, none⟩ = some (.int .i64 (l[j]).1.time) ∧ w.cell? ⟨b, j * 4 + 2, none⟩ = some (.slice (l[j]).2.1 (l[j]).1.labs.length (l[j]).2.2) ∧ w.cell? ⟨b, j * 4 + 3, none⟩ = some (.string ⟨(l[j]).1.line.toArray⟩) ∧
    w.frozen? ⟨b, j * 4, none⟩ = false ∧ w.frozen? ⟨b, j * 4 + 1, none⟩ = false ∧ w.frozen? ⟨b, j * 4 + 2, none⟩ = false ∧ w.frozen? ⟨b, j * 4 + 3, none⟩ = false
theorem RowE.below {w w' : World} {b : Nat} {l : List EV} (h : RowE w b l) (hb : Below w.heap.size w w') : RowE w' b l :=
  ⟨Nat.lt_of_lt_of_le h.1 hb.size, fun j hj => by
    obtain ⟨c0, c1, c2, c3, f0, f1, f2, f3⟩ := h.2 j hj
    exact ⟨(hb.cell (p := ⟨b, j * 4, none⟩) h.1).trans c0, (hb.cell (p := ⟨b, j * 4 + 1, none⟩) h.1).trans c1, (hb.cell (p := ⟨b, j * 4 + 2, none⟩) h.1).trans c2, (hb.cell (p := ⟨b, j * 4 + 3, none⟩) h.1).trans c3,
      (hb.frozen (p := ⟨b, j * 4, none⟩) h.1).trans f0, (hb.frozen (p := ⟨b, j * 4 + 1, none⟩) h.1).trans f1, (hb.frozen (p := ⟨b, j * 4 + 2, none⟩) h.1).trans f2, (hb.frozen (p := ⟨b, j * 4 + 3, none⟩) h.1).trans f3⟩⟩
theorem RowE.put {w : World} {b : Nat} {l : List EV} (h : RowE w b l) (k : Nat) (hk : k < l.length) (p : EV) :
    RowE ((((w.setCell ⟨b, k * 4, none⟩ (.int .i64 p.1.seq)).setCell ⟨b, k * 4 + 1, none⟩ (.int .i64 p.1.time)).setCell ⟨b, k * 4 + 2, none⟩ (.slice p.2.1 p.1.labs.length p.2.2)).setCell ⟨b, k * 4 + 3, none⟩ (.string ⟨p.1.line.toArray⟩)) b (l.set k p) := by
  refine ⟨by simpa [World.setCell] using h.1, fun j hj => ?_⟩
  rw [List.length_set] at hj
  obtain ⟨c0, c1, c2, c3, f0, f1, f2, f3⟩ := h.2 j hj
  simp only [World.frozen?_setCell, f0, f1, f2, f3, and_true, List.getElem_set]
  by_cases e : k = j
  · subst e
    simp only [if_true]
    refine ⟨?_, ?_, ?_, ?_⟩
    · rw [World.cell?_setCell_other _ _ _ _ (by simp), World.cell?_setCell_other _ _ _ _ (by simp), World.cell?_setCell_other _ _ _ _ (by simp)]
      exact World.cell?_setCell_same' _ _ _ (by rw [c0]; rfl)
    · rw [World.cell?_setCell_other _ _ _ _ (by simp), World.cell?_setCell_other _ _ _ _ (by simp)]
      exact World.cell?_setCell_same' _ _ _ (by rw [World.cell?_setCell_other _ _ _ _ (by simp), c1]; rfl)
    · rw [World.cell?_setCell_other _ _ _ _ (by simp)]
      exact World.cell?_setCell_same' _ _ _ (by rw [World.cell?_setCell_other _ _ _ _ (by simp), World.cell?_setCell_other _ _ _ _ (by simp), c2]; rfl)
    · exact World.cell?_setCell_same' _ _ _ (by rw [World.cell?_setCell_other _ _ _ _ (by simp), World.cell?_setCell_other _ _ _ _ (by simp), World.cell?_setCell_other _ _ _ _ (by simp), c3]; rfl)
  · simp only [if_neg e]
    have ne : ∀ r s, r < 4 → s < 4 → (⟨b, k * 4 + r, none⟩ : Addr) ≠ ⟨b, j * 4 + s, none⟩ := fun r s hr hs => by
      intro e2
      injection e2 with _ e3 _
      omega
    have n0 := fun s hs => ne 0 s (by omega) hs
    simp only [Nat.add_zero] at n0
    refine ⟨?_, ?_, ?_, ?_⟩
    · have m := fun r hr => ne r 0 hr (by omega)
      have m0 := n0 0 (by omega)
      simp only [Nat.add_zero] at m m0
      rw [World.cell?_setCell_other _ _ _ _ (m 3 (by omega)), World.cell?_setCell_other _ _ _ _ (m 2 (by omega)), World.cell?_setCell_other _ _ _ _ (m 1 (by omega)), World.cell?_setCell_other _ _ _ _ m0]
      exact c0
    · rw [World.cell?_setCell_other _ _ _ _ (ne 3 1 (by omega) (by omega)), World.cell?_setCell_other _ _ _ _ (ne 2 1 (by omega) (by omega)), World.cell?_setCell_other _ _ _ _ (ne 1 1 (by omega) (by omega)), World.cell?_setCell_other _ _ _ _ (n0 1 (by omega))]
      exact c1
    · rw [World.cell?_setCell_other _ _ _ _ (ne 3 2 (by omega) (by omega)), World.cell?_setCell_other _ _ _ _ (ne 2 2 (by omega) (by omega)), World.cell?_setCell_other _ _ _ _ (ne 1 2 (by omega) (by omega)), World.cell?_setCell_other _ _ _ _ (n0 2 (by omega))]
      exact c2
    · rw [World.cell?_setCell_other _ _ _ _ (ne 3 3 (by omega) (by omega)), World.cell?_setCell_other _ _ _ _ (ne 2 3 (by omega) (by omega)), World.cell?_setCell_other _ _ _ _ (ne 1 3 (by omega) (by omega)), World.cell?_setCell_other _ _ _ _ (n0 3 (by omega))]
      exact c3
theorem lswap_set {α : Type} {l : List α} {i j : Nat} (hi : i < l.length) (hj : j < l.length) : lswap l i j = (l.set i l[j]).set j l[i] := by
  unfold lswap
  rw [List.getElem?_eq_getElem hi, List.getElem?_eq_getElem hj]
theorem lswap_length {α : Type} (l : List α) (i j : Nat) : (lswap l i j).length = l.length := by
  unfold lswap
  split <;> simp
/-- So many swaps, from two places on. -/
def srl {α : Type} (l : List α) (a b : Nat) : Nat → List α
  | 0 => l
  | k + 1 => lswap (srl l a b k) (a + k) (b + k)
theorem srl_length {α : Type} (l : List α) (a b : Nat) : ∀ k, (srl l a b k).length = l.length
  | 0 => rfl
  | k + 1 => by unfold srl; rw [lswap_length, srl_length l a b k]
theorem srl_spec {α : Type} (A X M Y B : List α) (h : X.length = Y.length) : ∀ k, k ≤ X.length →
    srl (A ++ X ++ M ++ Y ++ B) A.length (A.length + X.length + M.length) k = A ++ (Y.take k ++ X.drop k) ++ M ++ (X.take k ++ Y.drop k) ++ B
  | 0, _ => by simp [srl]
  | k + 1, hk => by
    unfold srl
    rw [srl_spec A X M Y B h k (by omega)]
    exact swap_step A X M Y B k (by omega) h
theorem srl_all {α : Type} (A X M Y B : List α) (h : X.length = Y.length) :
    srl (A ++ X ++ M ++ Y ++ B) A.length (A.length + X.length + M.length) X.length = A ++ Y ++ M ++ X ++ B := by
  rw [srl_spec A X M Y B h X.length (Nat.le_refl _)]
  rw [List.drop_length, List.take_length, h, List.take_length, List.drop_length]
  simp
theorem row_drew {w : World} {b : Nat} {l : List EV} (h : RowE w b l) : RowE w.drew b l := h
theorem grown_drew1 (w : World) (row : Option Nat) : w.grownBy w.drew row := ⟨rfl, rfl, rfl, Nat.le_refl _, fun _ _ _ => rfl⟩
theorem put_grown (w : World) (b i j k m : Nat) (a c d e : Value) : w.grownBy ((((w.setCell ⟨b, i, none⟩ a).setCell ⟨b, j, none⟩ c).setCell ⟨b, k, none⟩ d).setCell ⟨b, m, none⟩ e) (some b) :=
  World.grownBy.trans (World.grownBy.trans (World.grownBy.trans (grown_set w b i a) (grown_set _ b j c)) (grown_set _ b k d)) (grown_set _ b m e)
/-- The comparer as a function value. -/
def cmpF (f : Nat) : Value := .func (.func f) #[.agg #[]] #[]
end Go.Icz
namespace Go.Proofs.YtcdfjkhjdiojbaaDoor
open Go.RowKit Go.Icz
set_option maxHeartbeats 4000000 in
set_option maxRecDepth 100000 in
theorem swapRange_is (b cap a c n : Nat) (l : List EV) (f : Value) (w : World) (hR : RowE w b l) (ha : a + n ≤ l.length) (hc : c + n ≤ l.length) (hne : a ≠ c) (hlen : l.length ≤ 4611686018427387904) :
    Calls Tryd.prog 106 #[.slice (some ⟨b, 0, none⟩) l.length cap, .int .i64 a, .int .i64 c, .int .i64 n, f] w fun e w' => e = .returned (.tuple #[]) ∧ RowE w' b (srl l a c n) ∧ w.grownBy w' (some b) := by
  go_enter Tryd.func106, Tryd.ntmps106
  go_wp2
  go_loopw [10] (fun iv wr => ∃ i : Nat, iv = .int .i64 i ∧ i ≤ n ∧ RowE wr b (srl l a c i) ∧ w.grownBy wr (some b)) (fun iv _ => n - (intOf iv).toNat)
  case atStart => exact ⟨0, rfl, by omega, hR, World.grownBy.refl _ _⟩
  case round =>
    obtain ⟨i, rfl, hi, hr, hg⟩ := hrel
    by_cases hlt : i < n
    · have hl := srl_length l a c i
      have hp1 : a + i < (srl l a c i).length := by omega
      have hq1 : c + i < (srl l a c i).length := by omega
      have HS : Hid (srl l a c (i + 1) = ((srl l a c i).set (a + i) (srl l a c i)[c + i]).set (c + i) (srl l a c i)[a + i]) := hid (lswap_set hp1 hq1)
      obtain ⟨x0, x1, x2, x3, xf0, xf1, xf2, xf3⟩ := hr.2 (a + i) hp1
      obtain ⟨y0, y1, y2, y3, yf0, yf1, yf2, yf3⟩ := hr.2 (c + i) hq1
      have P2 := fun u u2 => (hr.put (a + i) hp1 u).put (c + i) (by rw [List.length_set]; exact hq1) u2
      have P3 := fun u u2 => (hr.put (c + i) hq1 u2).put (a + i) (by rw [List.length_set]; exact hp1) u
      generalize srl l a c i = l1 at *
      generalize l1[a + i] = x at *
      generalize l1[c + i] = y at *
      have zp : IntKind.i64.wrap ((a : Int) + (i : Int)) = (a : Int) + (i : Int) := by rw [IntKind.wrap_i64]; omega
      have zq : IntKind.i64.wrap ((c : Int) + (i : Int)) = (c : Int) + (i : Int) := by rw [IntKind.wrap_i64]; omega
      have zp0 : (0 : Int) ≤ (a : Int) + (i : Int) := by omega
      have zq0 : (0 : Int) ≤ (c : Int) + (i : Int) := by omega
      have zpl : (a : Int) + (i : Int) < (l.length : Int) := by omega
      have zql : (c : Int) + (i : Int) < (l.length : Int) := by omega
      have zpn : ((a : Int) + (i : Int)).toNat = a + i := by omega
      have zqn : ((c : Int) + (i : Int)).toNat = c + i := by omega
      have hlt' : (i : Int) < (n : Int) := by omega
      go_wp2
      go_region
      go_wp2
      go_roundw
      case rel => exact ⟨i + 1, by go_num, by omega, by rw [HS.out]; exact row_drew (P2 y x), World.grownBy.trans hg (World.grownBy.trans (World.grownBy.trans (put_grown wr b _ _ _ _ _ _ _ _) (put_grown _ b _ _ _ _ _ _ _ _)) (grown_drew1 _ _))⟩
      case measure => simp [intOf]; omega
    · obtain rfl : i = n := by omega
      go_wp2
      go_end0
      exact ⟨rfl, hr, hg⟩
end Go.Proofs.YtcdfjkhjdiojbaaDoor
