/-
  Whether labels, entries and lists of entries are the same; labels that are spoilt; rows copied. Conditions: those that each theorem names.
-/
import Derived.Test.YtcffagfkpkfgbaaMgc
import Derived.Test.YtcffagfkpkfgbaaMgn
import Derived.BigRegion
import Derived.Deep.RegionHeld3
namespace Go.Icz
open Go.RowKit
def sameE (x y : Ent) : Bool := x.seq == y.seq && x.time == y.time && x.line == y.line && decide (x.labs = y.labs)
theorem sameE_iff {x y : Ent} : sameE x y = true ↔ x = y := by
  obtain ⟨a, b, c, d⟩ := x
  obtain ⟨a2, b2, c2, d2⟩ := y
  unfold sameE
  simp only [Bool.and_eq_true, beq_iff_eq, decide_eq_true_eq, Ent.mk.injEq]
  constructor
  · rintro ⟨⟨⟨h1, h2⟩, h3⟩, h4⟩; exact ⟨h1, h2, h4, h3⟩
  · rintro ⟨h1, h2, h4, h3⟩; exact ⟨⟨⟨h1, h2⟩, h3⟩, h4⟩
end Go.Icz
namespace Go.Proofs.Ytcffagfkpkfgbaa
open Go.RowKit Go.Icz
theorem Rd2 {w : World} {A : Option Addr} {n c : Nat} {l : List Lab} (h : KLab.Rd w (.slice A n c) l) {j : Nat} (hj : j < l.length) : ∃ b off, A = some ⟨b, off, none⟩ ∧ b < w.heap.size ∧ w.cell? ⟨b, off + j * 2, none⟩ = some (.string ⟨(l[j]).1.toArray⟩) ∧ w.cell? ⟨b, off + j * 2 + 1, none⟩ = some (.string ⟨(l[j]).2.toArray⟩) := by
  obtain ⟨b, off, hA, hb, hc⟩ := h.at hj
  exact ⟨b, off, hA, hb, hc 0 _ (by decide) rfl, hc 1 _ (by decide) rfl⟩
set_option maxHeartbeats 2000000 in
set_option maxRecDepth 100000 in
theorem Same_is (v1 v2 : Value) (l1 l2 : List Lab) (w : World) (h1 : KLab.Rd w v1 l1) (h2 : KLab.Rd w v2 l2) (hm : l1.length ≤ 4611686018427387904) :
    Calls Try.prog 25 #[v1, v2] w fun e w' => e = .returned (.bool (decide (l1 = l2))) ∧ Below w.heap.size w w' := by
  obtain ⟨A1, c1, rfl, hl1⟩ := h1.form
  obtain ⟨A2, c2, rfl, hl2⟩ := h2.form
  by_cases hlen : l1.length = l2.length
  · have hL : (l1.length : Int) = (l2.length : Int) := by omega
    go_enter Try.func25, Try.ntmps25
    go_wp2
    go_loopw [5] (fun iv wr => ∃ i : Nat, iv = .int .i64 i ∧ i ≤ l1.length ∧ Below w.heap.size w wr ∧ Hid (l1.take i = l2.take i)) (fun iv _ => l1.length - (intOf iv).toNat)
    case atStart => exact ⟨0, rfl, by omega, Below.refl _ _, hid (by simp)⟩
    case round =>
      obtain ⟨i, rfl, hi, hbw, HT⟩ := hrel
      by_cases hlt : i < l1.length
      · have hlt2 : i < l2.length := by omega
        obtain ⟨b1, o1, rfl, hb1, p0, p1⟩ := Rd2 h1 hlt
        obtain ⟨b2, o2, rfl, hb2, q0, q1⟩ := Rd2 h2 hlt2
        have a0 := (hbw.cell (p := ⟨b1, o1 + i * 2, none⟩) hb1).trans p0
        have a1 := (hbw.cell (p := ⟨b1, o1 + i * 2 + 1, none⟩) hb1).trans p1
        have d0 := (hbw.cell (p := ⟨b2, o2 + i * 2, none⟩) hb2).trans q0
        have d1 := (hbw.cell (p := ⟨b2, o2 + i * 2 + 1, none⟩) hb2).trans q1
        have ht1 : l1.take (i + 1) = l1.take i ++ [l1[i]] := by rw [List.take_append_getElem]
        have ht2 : l2.take (i + 1) = l2.take i ++ [l2[i]] := by rw [List.take_append_getElem]
        have hne : l1[i] ≠ l2[i] → ¬ l1 = l2 := fun h e => by subst e; exact h rfl
        have HN : Hid (l1[i] ≠ l2[i] → ¬ l1 = l2) := hid hne
        have H1 := hid ht1
        have H2 := hid ht2
        clear p0 p1 q0 q1 ht1 ht2 hne h1 h2
        generalize l1[i] = x at *
        generalize l2[i] = y at *
        obtain ⟨x1, x2⟩ := x
        obtain ⟨y1, y2⟩ := y
        simp only [] at a0 a1 d0 d1
        by_cases e1 : x1 = y1
        · by_cases e2 : x2 = y2
          · subst e1 e2
            go_wp2
            go_region
            go_wp2
            go_roundw
            case rel => exact ⟨i + 1, by go_num, by omega, hbw.drew, hid (by rw [H1.out, H2.out, HT.out])⟩
            case measure => simp [intOf]; omega
          · have hb : (x2 == y2) = false := by simpa using e2
            have HF : Hid (¬ l1 = l2) := hid (HN.out (fun e => e2 (by injection e)))
            subst e1
            go_wp2
            go_region
            go_wp2
            go_ret
            exact ⟨by rw [decide_eq_false HF.out]; rfl, hbw.drew⟩
        · have hb : (x1 == y1) = false := by simpa using e1
          have HF : Hid (¬ l1 = l2) := hid (HN.out (fun e => e1 (by injection e)))
          go_wp2
          go_region
          go_wp2
          go_ret
          exact ⟨by rw [decide_eq_false HF.out]; rfl, hbw.drew⟩
      · have hT : l1 = l2 := by
          have e := HT.out
          rwa [List.take_of_length_le (by omega), List.take_of_length_le (by omega)] at e
        have HTT := hid hT
        clear hT
        go_wp2
        go_ret
        exact ⟨by rw [decide_eq_true HTT.out]; rfl, hbw⟩
  · have hF : ¬ l1 = l2 := fun e => hlen (by rw [e])
    have hb : ((l1.length : Int) == (l2.length : Int)) = false := by simp; omega
    have HF := hid hF
    clear hF
    go_enter Try.func25, Try.ntmps25
    go_wp2
    go_ret
    exact ⟨by rw [decide_eq_false HF.out]; rfl, Below.refl _ _⟩

set_option maxHeartbeats 1000000 in
set_option maxRecDepth 100000 in
theorem ESame_is (x y : EV) (w : World) (h1 : KLab.Rd w (lbV x) x.1.labs) (h2 : KLab.Rd w (lbV y) y.1.labs) (hm : x.1.labs.length ≤ 4611686018427387904) :
    Calls Try.prog 17 #[entV x, entV y] w fun e w' => e = .returned (.bool (sameE x.1 y.1)) ∧ Below w.heap.size w w' := by
  have hS := fun w1 g1 g2 => Same_is (lbV x) (lbV y) x.1.labs y.1.labs w1 g1 g2 hm
  have g1 := fun o o2 => (h1.alloc o).alloc o2
  have g2 := fun o o2 => (h2.alloc o).alloc o2
  have hb : ∀ o o2, Below w.heap.size w ((w.alloc o).alloc o2) := fun o o2 => ((Below.refl _ _).alloc (Nat.le_refl _) o).alloc (by simp) o2
  clear h1 h2 hm
  unfold lbV at hS g1 g2
  unfold entV sameE
  obtain ⟨⟨xs, xt, xl, xi⟩, A, c⟩ := x
  obtain ⟨⟨ys, yt, yl, yi⟩, A', c'⟩ := y
  simp only at *
  generalize decide (xl = yl) = q at *
  by_cases e1 : xs = ys
  · by_cases e2 : xt = yt
    · by_cases e3 : xi = yi
      · subst e1 e2 e3
        have f1 : (xs == xs && xt == xt && xi == xi && q) = q := by simp
        rw [f1]
        go_enter Try.func17, Try.ntmps17
        go_wp2_with (go_at_call 25; refine (hS _ (g1 _ _) (g2 _ _)).mono ?_; rintro e w1 ⟨rfl, b1⟩)
        go_ret
        exact ⟨rfl, (hb _ _).trans (b1.mono (by simp; omega))⟩
      · subst e1 e2
        have f1 : (xs == xs && xt == xt && xi == yi && q) = false := by simp [e3]
        rw [f1]
        have f3 : ¬ (⟨xi.toArray⟩ : ByteArray) = ⟨yi.toArray⟩ := by
          intro h
          injection h with h
          exact e3 (by simpa using congrArg Array.toList h)
        go_enter Try.func17, Try.ntmps17
        go_wp2_with (go_at_call 25; refine (hS _ (g1 _ _) (g2 _ _)).mono ?_; rintro e w1 ⟨rfl, b1⟩)
        go_ret
        exact ⟨rfl, hb _ _⟩
    · subst e1
      have f1 : (xs == xs && xt == yt && xi == yi && q) = false := by simp [e2]
      rw [f1]
      have f2 : (xt == yt) = false := by simp [e2]
      go_enter Try.func17, Try.ntmps17
      go_wp2_with (go_at_call 25; refine (hS _ (g1 _ _) (g2 _ _)).mono ?_; rintro e w1 ⟨rfl, b1⟩)
      go_ret
      exact ⟨rfl, hb _ _⟩
  · have f1 : (xs == ys && xt == yt && xi == yi && q) = false := by simp [e1]
    rw [f1]
    have f2 : (xs == ys) = false := by simp [e1]
    go_enter Try.func17, Try.ntmps17
    go_wp2_with (go_at_call 25; refine (hS _ (g1 _ _) (g2 _ _)).mono ?_; rintro e w1 ⟨rfl, b1⟩)
    go_ret
    exact ⟨rfl, hb _ _⟩
set_option maxHeartbeats 1000000 in
set_option maxRecDepth 100000 in
theorem ESames_refl (v1 v2 : Value) (l m : List EV) (w : World) (h1 : RdE w v1 l) (h2 : RdE w v2 m) (hlm : l.map (·.1) = m.map (·.1)) (hz : SzE l) :
    Calls Try.prog 11 #[v1, v2] w fun e w' => e = .returned (.bool true) ∧ Below w.heap.size w w' := by
  obtain ⟨A, c, rfl, hlc⟩ := h1.1.form
  obtain ⟨A2, c2, rfl, hlc2⟩ := h2.1.form
  have hlen := hz.1
  have hll : m.length = l.length := by have := congrArg List.length hlm; simpa using this.symm
  rw [hll] at hlc2 ⊢
  have HLL := hid hll
  have HLM := hid hlm
  clear hll hlm
  go_enter Try.func11, Try.ntmps11
  go_wp2
  go_loopw [5] (fun iv wr => ∃ i : Nat, iv = .int .i64 i ∧ i ≤ l.length ∧ Below w.heap.size w wr) (fun iv _ => l.length - (intOf iv).toNat)
  case atStart => exact ⟨0, rfl, by omega, Below.refl _ _⟩
  case round =>
    obtain ⟨i, rfl, hi, hbw⟩ := hrel
    by_cases hlt : i < l.length
    · have hlt2 : i < m.length := by have := HLL.out; omega
      obtain ⟨b, off, hA, hb, hcx⟩ := h1.1.at hlt
      obtain ⟨b2, off2, hA2, hb2, hcy⟩ := h2.1.at hlt2
      subst hA hA2
      have q0 : wr.cell? ⟨b, off + i * 4, none⟩ = some (.int .i64 l[i].1.seq) := (hbw.cell (p := ⟨b, off + (i * 4 + 0), none⟩) hb).trans (hcx 0 _ (by decide) rfl)
      have q1 : wr.cell? ⟨b, off + i * 4 + 1, none⟩ = some (.int .i64 l[i].1.time) := (hbw.cell (p := ⟨b, off + (i * 4 + 1), none⟩) hb).trans (hcx 1 _ (by decide) rfl)
      have q2 : wr.cell? ⟨b, off + i * 4 + 2, none⟩ = some (.slice l[i].2.1 l[i].1.labs.length l[i].2.2) := (hbw.cell (p := ⟨b, off + (i * 4 + 2), none⟩) hb).trans (hcx 2 _ (by decide) rfl)
      have q3 : wr.cell? ⟨b, off + i * 4 + 3, none⟩ = some (.string ⟨l[i].1.line.toArray⟩) := (hbw.cell (p := ⟨b, off + (i * 4 + 3), none⟩) hb).trans (hcx 3 _ (by decide) rfl)
      have p0 : wr.cell? ⟨b2, off2 + i * 4, none⟩ = some (.int .i64 m[i].1.seq) := (hbw.cell (p := ⟨b2, off2 + (i * 4 + 0), none⟩) hb2).trans (hcy 0 _ (by decide) rfl)
      have p1 : wr.cell? ⟨b2, off2 + i * 4 + 1, none⟩ = some (.int .i64 m[i].1.time) := (hbw.cell (p := ⟨b2, off2 + (i * 4 + 1), none⟩) hb2).trans (hcy 1 _ (by decide) rfl)
      have p2 : wr.cell? ⟨b2, off2 + i * 4 + 2, none⟩ = some (.slice m[i].2.1 m[i].1.labs.length m[i].2.2) := (hbw.cell (p := ⟨b2, off2 + (i * 4 + 2), none⟩) hb2).trans (hcy 2 _ (by decide) rfl)
      have p3 : wr.cell? ⟨b2, off2 + i * 4 + 3, none⟩ = some (.string ⟨m[i].1.line.toArray⟩) := (hbw.cell (p := ⟨b2, off2 + (i * 4 + 3), none⟩) hb2).trans (hcy 3 _ (by decide) rfl)
      have rl := (h1.2 _ (List.getElem_mem hlt)).below hbw
      have rl2 := (h2.2 _ (List.getElem_mem hlt2)).below hbw
      have hz1 := Nat.lt_of_lt_of_le hb hbw.size
      have hz2 := Nat.lt_of_lt_of_le hb2 hbw.size
      have hx := hz.2 _ (List.getElem_mem hlt)
      have EQ : l[i].1 = m[i].1 := by
        have := congrArg (fun (z : List Ent) => z[i]?) HLM.out
        simpa [hlt, hlt2] using this
      have hil : i + 1 ≤ l.length := hlt
      have HIL := hid hil
      clear hcx hcy h1 h2 hz
      generalize l[i] = x at *
      generalize m[i] = y at *
      have hS := fun w1 g1 g2 => ESame_is x y w1 g1 g2 (by omega)
      rw [sameE_iff.2 EQ] at hS
      clear EQ
      unfold entV at hS
      have mkS : ∀ w', Below wr.heap.size wr w' → Below wr.heap.size wr w' ∧ w'.cell? ⟨b, off + i * 4, none⟩ = some (.int .i64 x.1.seq) ∧ w'.cell? ⟨b, off + i * 4 + 1, none⟩ = some (.int .i64 x.1.time) ∧ w'.cell? ⟨b, off + i * 4 + 2, none⟩ = some (.slice x.2.1 x.1.labs.length x.2.2) ∧ w'.cell? ⟨b, off + i * 4 + 3, none⟩ = some (.string ⟨x.1.line.toArray⟩) ∧ w'.cell? ⟨b2, off2 + i * 4, none⟩ = some (.int .i64 y.1.seq) ∧ w'.cell? ⟨b2, off2 + i * 4 + 1, none⟩ = some (.int .i64 y.1.time) ∧ w'.cell? ⟨b2, off2 + i * 4 + 2, none⟩ = some (.slice y.2.1 y.1.labs.length y.2.2) ∧ w'.cell? ⟨b2, off2 + i * 4 + 3, none⟩ = some (.string ⟨y.1.line.toArray⟩) := fun w' h => ⟨h, (h.cell (p := ⟨b, off + i * 4, none⟩) hz1).trans q0, (h.cell (p := ⟨b, off + i * 4 + 1, none⟩) hz1).trans q1, (h.cell (p := ⟨b, off + i * 4 + 2, none⟩) hz1).trans q2, (h.cell (p := ⟨b, off + i * 4 + 3, none⟩) hz1).trans q3, (h.cell (p := ⟨b2, off2 + i * 4, none⟩) hz2).trans p0, (h.cell (p := ⟨b2, off2 + i * 4 + 1, none⟩) hz2).trans p1, (h.cell (p := ⟨b2, off2 + i * 4 + 2, none⟩) hz2).trans p2, (h.cell (p := ⟨b2, off2 + i * 4 + 3, none⟩) hz2).trans p3⟩
      have hk := mkS wr.drew (Below.refl _ _).drew
      clear q0 q1 q2 q3 p0 p1 p2 p3
      go_wp2_with fail
      go_region_held3 (fun w' => Below wr.heap.size wr w' ∧ w'.cell? ⟨b, off + i * 4, none⟩ = some (.int .i64 x.1.seq) ∧ w'.cell? ⟨b, off + i * 4 + 1, none⟩ = some (.int .i64 x.1.time) ∧ w'.cell? ⟨b, off + i * 4 + 2, none⟩ = some (.slice x.2.1 x.1.labs.length x.2.2) ∧ w'.cell? ⟨b, off + i * 4 + 3, none⟩ = some (.string ⟨x.1.line.toArray⟩) ∧ w'.cell? ⟨b2, off2 + i * 4, none⟩ = some (.int .i64 y.1.seq) ∧ w'.cell? ⟨b2, off2 + i * 4 + 1, none⟩ = some (.int .i64 y.1.time) ∧ w'.cell? ⟨b2, off2 + i * 4 + 2, none⟩ = some (.slice y.2.1 y.1.labs.length y.2.2) ∧ w'.cell? ⟨b2, off2 + i * 4 + 3, none⟩ = some (.string ⟨y.1.line.toArray⟩)) (exact hk)
        (first | (go_at_call 17; refine (hS _ (rl.below hk.1) (rl2.below hk.1)).mono ?_; rintro e w1 ⟨rfl, b1⟩; have hk := mkS _ (hk.1.trans (b1.mono hk.1.size))))
      go_wp2_with fail
      go_roundw
      case rel => exact ⟨i + 1, by go_num, HIL.out, hbw.trans (hk.1.mono hbw.size)⟩
      case measure => have h9 := HIL.out; simp [intOf]; omega
    · clear h1 h2
      go_wp2
      go_ret
      exact ⟨rfl, hbw⟩
end Go.Proofs.Ytcffagfkpkfgbaa
