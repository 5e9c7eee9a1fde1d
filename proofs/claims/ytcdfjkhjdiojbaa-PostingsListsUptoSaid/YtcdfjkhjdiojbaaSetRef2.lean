/-
  What the reference's And, Or, Not and Right of lists of numbers answer. Conditions: the lists can be read; sizes as each theorem names.
-/
import Derived.Test.YtcdfjkhjdiojbaaSetRef
import Derived.Deep.QuietTactic
import Derived.BigQuiet
namespace Go.Proofs.Ytcdfjkhjdiojbaa
open Go.RowKit Go.Icz
/-- A list that can be read, rising, of what S says. -/
def RefOut (S : Int → Prop) (w : World) (e : Ending) (w' : World) : Prop := ∃ v l, e = .returned v ∧ RdI w' v l ∧ Rises l S ∧ Below w.heap.size w w'
set_option maxHeartbeats 1000000 in
set_option maxRecDepth 100000 in
theorem R5And_is (va vb : Value) (a b : List Int) (w : World) (hA : RdI w va a) (hB : RdI w vb b) (ha : a.length ≤ 8796093022207) (hb : b.length ≤ 4611686018427387904) :
    Calls Try.prog 10 #[va, vb] w (RefOut (fun x => x ∈ a ∧ x ∈ b) w) := by
  have HB := fun w1 (h : Below w.heap.size w w1) x => in_is vb b x w1 (hB.below h) hb
  obtain ⟨A, c, rfl, hc, hcell⟩ := hA
  obtain ⟨B, cb, rfl, -, -⟩ := id hB
  go_enter Try.func10, Try.ntmps10
  go_wp2_with fail
  go_loopw [5, 6] (fun ov iv wr => ∃ (i : Nat) (l : List Int), iv = .int .i64 i ∧ i ≤ a.length ∧ RdI wr ov l ∧ Rises l (fun x => x ∈ a.take i ∧ x ∈ b) ∧ l.length ≤ i ∧ Below w.heap.size w wr) (fun _ iv _ => a.length - (intOf iv).toNat)
  case atStart => exact ⟨0, [], rfl, by omega, RdI.nil _, Rises.none.congr (fun x => by simp), by simp, Below.refl _ _⟩
  case round =>
    obtain ⟨i, l, rfl, hi, hro, hrs, hll, hbw⟩ := hrel
    by_cases hlt : i < a.length
    · obtain ⟨b0, off, rfl, hbl, hcl⟩ := hcell (by omega)
      have K : ∀ w', Below w.heap.size w w' → w'.cell? ⟨b0, off + i, none⟩ = some (.int .i64 a[i]) := fun w' h => (h.cell (p := ⟨b0, off + i, none⟩) hbl).trans (hcl i hlt)
      have k0 := K _ hbw
      have hlt' : (i : Int) < (a.length : Int) := by omega
      have HTK : Hid (a.take (i + 1) = a.take i ++ [a[i]]) := hid (List.take_succ_eq_append_getElem hlt)
      clear hcl hcell
      generalize a[i] = y at *
      have hin := fun w1 (h : Below w.heap.size w w1) => HB w1 h y
      clear HB
      by_cases hy : y ∈ b
      · rw [decide_eq_true hy] at hin
        have HY := hid hy
        clear hy
        have HW := fun u w2 (h : RdI w2 u l) => with_is u l y _ w2 h hrs (by omega)
        unfold WithOut at HW
        go_wp2_with (first
          | (go_at_call 25; refine (hin _ hbw).mono ?_; rintro e w2 ⟨rfl, b2'⟩; have b2 := hbw.trans (b2'.mono hbw.size); have k0 := K _ b2; have ro2 := hro.below b2'; clear hin hro)
          | (go_at_call 26; refine (HW _ _ ro2).mono ?_; rintro e w3 ⟨v3, l3, rfl, r3, s3, n3, b3'⟩; have b3 := b2.trans (b3'.mono b2.size); clear HW ro2)
          | fail)
        go_roundw
        case rel => exact ⟨i + 1, l3, by go_num, by omega, r3, s3.congr (fun x => by rw [HTK.out, List.mem_append, List.mem_singleton]; have := HY.out; by_cases h : x = y <;> simp_all), by omega, b3⟩
        case measure => simp [intOf]; omega
      · rw [decide_eq_false hy] at hin
        have HY := hid hy
        clear hy
        go_wp2_with (go_at_call 25; refine (hin _ hbw).mono ?_; rintro e w2 ⟨rfl, b2'⟩; have b2 := hbw.trans (b2'.mono hbw.size); have ro2 := hro.below b2'; clear hin hro)
        go_roundw
        case rel => exact ⟨i + 1, l, by go_num, by omega, ro2, hrs.congr (fun x => by rw [HTK.out, List.mem_append, List.mem_singleton]; have := HY.out; by_cases h : x = y <;> simp_all), by omega, b2⟩
        case measure => simp [intOf]; omega
    · have hge : ¬ (i : Int) < (a.length : Int) := by omega
      go_wp2_with fail
      go_ret
      rw [List.take_of_length_le (by omega)] at hrs
      exact ⟨_, l, rfl, hro, hrs, hbw⟩
set_option maxHeartbeats 1000000 in
set_option maxRecDepth 100000 in
theorem R5Not_is (va vb : Value) (a b : List Int) (w : World) (hA : RdI w va a) (hB : RdI w vb b) (ha : a.length ≤ 8796093022207) (hb : b.length ≤ 4611686018427387904) :
    Calls Try.prog 14 #[va, vb] w (RefOut (fun x => x ∈ a ∧ ¬ x ∈ b) w) := by
  have HB := fun w1 (h : Below w.heap.size w w1) x => in_is vb b x w1 (hB.below h) hb
  obtain ⟨A, c, rfl, hc, hcell⟩ := hA
  obtain ⟨B, cb, rfl, -, -⟩ := id hB
  go_enter Try.func14, Try.ntmps14
  go_wp2_with fail
  go_loopw [5, 6] (fun ov iv wr => ∃ (i : Nat) (l : List Int), iv = .int .i64 i ∧ i ≤ a.length ∧ RdI wr ov l ∧ Rises l (fun x => x ∈ a.take i ∧ ¬ x ∈ b) ∧ l.length ≤ i ∧ Below w.heap.size w wr) (fun _ iv _ => a.length - (intOf iv).toNat)
  case atStart => exact ⟨0, [], rfl, by omega, RdI.nil _, Rises.none.congr (fun x => by simp), by simp, Below.refl _ _⟩
  case round =>
    obtain ⟨i, l, rfl, hi, hro, hrs, hll, hbw⟩ := hrel
    by_cases hlt : i < a.length
    · obtain ⟨b0, off, rfl, hbl, hcl⟩ := hcell (by omega)
      have K : ∀ w', Below w.heap.size w w' → w'.cell? ⟨b0, off + i, none⟩ = some (.int .i64 a[i]) := fun w' h => (h.cell (p := ⟨b0, off + i, none⟩) hbl).trans (hcl i hlt)
      have k0 := K _ hbw
      have hlt' : (i : Int) < (a.length : Int) := by omega
      have HTK : Hid (a.take (i + 1) = a.take i ++ [a[i]]) := hid (List.take_succ_eq_append_getElem hlt)
      clear hcl hcell
      generalize a[i] = y at *
      have hin := fun w1 (h : Below w.heap.size w w1) => HB w1 h y
      clear HB
      by_cases hy : y ∈ b
      · rw [decide_eq_true hy] at hin
        have HY := hid hy
        clear hy
        go_wp2_with (go_at_call 25; refine (hin _ hbw).mono ?_; rintro e w2 ⟨rfl, b2'⟩; have b2 := hbw.trans (b2'.mono hbw.size); have ro2 := hro.below b2'; clear hin hro)
        go_roundw
        case rel => exact ⟨i + 1, l, by go_num, by omega, ro2, hrs.congr (fun x => by rw [HTK.out, List.mem_append, List.mem_singleton]; have := HY.out; by_cases h : x = y <;> simp_all), by omega, b2⟩
        case measure => simp [intOf]; omega
      · rw [decide_eq_false hy] at hin
        have HY := hid hy
        clear hy
        have HW := fun u w2 (h : RdI w2 u l) => with_is u l y _ w2 h hrs (by omega)
        unfold WithOut at HW
        go_wp2_with (first
          | (go_at_call 25; refine (hin _ hbw).mono ?_; rintro e w2 ⟨rfl, b2'⟩; have b2 := hbw.trans (b2'.mono hbw.size); have k0 := K _ b2; have ro2 := hro.below b2'; clear hin hro)
          | (go_at_call 26; refine (HW _ _ ro2).mono ?_; rintro e w3 ⟨v3, l3, rfl, r3, s3, n3, b3'⟩; have b3 := b2.trans (b3'.mono b2.size); clear HW ro2)
          | fail)
        go_roundw
        case rel => exact ⟨i + 1, l3, by go_num, by omega, r3, s3.congr (fun x => by rw [HTK.out, List.mem_append, List.mem_singleton]; have := HY.out; by_cases h : x = y <;> simp_all), by omega, b3⟩
        case measure => simp [intOf]; omega
    · have hge : ¬ (i : Int) < (a.length : Int) := by omega
      go_wp2_with fail
      go_ret
      rw [List.take_of_length_le (by omega)] at hrs
      exact ⟨_, l, rfl, hro, hrs, hbw⟩
set_option maxHeartbeats 1000000 in
set_option maxRecDepth 100000 in
theorem R5Or_is (va vb : Value) (a b : List Int) (w : World) (hA : RdI w va a) (hB : RdI w vb b) (hab : a.length + b.length ≤ 8796093022207) :
    Calls Try.prog 12 #[va, vb] w (RefOut (fun x => x ∈ a ∨ x ∈ b) w) := by
  obtain ⟨A, c, rfl, hc, hcell⟩ := hA
  obtain ⟨B, cb, rfl, hcb, hcellB⟩ := hB
  go_enter Try.func12, Try.ntmps12
  go_wp2_with fail
  go_loopw [5, 6] (fun ov iv wr => ∃ (i : Nat) (l : List Int), iv = .int .i64 i ∧ i ≤ a.length ∧ RdI wr ov l ∧ Rises l (fun x => x ∈ a.take i) ∧ l.length ≤ i ∧ Below w.heap.size w wr) (fun _ iv _ => a.length - (intOf iv).toNat)
  case atStart => exact ⟨0, [], rfl, by omega, RdI.nil _, Rises.none.congr (fun x => by simp), by simp, Below.refl _ _⟩
  case round =>
    obtain ⟨i, l, rfl, hi, hro, hrs, hll, hbw⟩ := hrel
    by_cases hlt : i < a.length
    · obtain ⟨b0, off, rfl, hbl, hcl⟩ := hcell (by omega)
      have k0 := (hbw.cell (p := ⟨b0, off + i, none⟩) hbl).trans (hcl i hlt)
      have hlt' : (i : Int) < (a.length : Int) := by omega
      have HTK : Hid (a.take (i + 1) = a.take i ++ [a[i]]) := hid (List.take_succ_eq_append_getElem hlt)
      clear hcl hcell hcellB
      generalize a[i] = y at *
      have HW := fun u w2 (h : RdI w2 u l) => with_is u l y _ w2 h hrs (by omega)
      unfold WithOut at HW
      go_wp2_with (first
        | (go_at_call 26; refine (HW _ _ hro).mono ?_; rintro e w3 ⟨v3, l3, rfl, r3, s3, n3, b3'⟩; have b3 := hbw.trans (b3'.mono hbw.size); clear HW hro)
        | fail)
      go_roundw
      case rel => exact ⟨i + 1, l3, by go_num, by omega, r3, s3.congr (fun x => by rw [HTK.out, List.mem_append, List.mem_singleton]), by omega, b3⟩
      case measure => simp [intOf]; omega
    · have hge : ¬ (i : Int) < (a.length : Int) := by omega
      obtain rfl : i = a.length := by omega
      rw [List.take_length] at hrs
      clear hcell
      go_wp2_with fail
      generalize wr = wo at *
      go_loopw [5, 7] (fun ov iv wr => ∃ (i : Nat) (l : List Int), iv = .int .i64 i ∧ i ≤ b.length ∧ RdI wr ov l ∧ Rises l (fun x => x ∈ a ∨ x ∈ b.take i) ∧ l.length ≤ a.length + i ∧ Below w.heap.size w wr) (fun _ iv _ => b.length - (intOf iv).toNat)
      case atStart => exact ⟨0, l, rfl, by omega, hro, hrs.congr (fun x => by simp), by omega, hbw⟩
      case round =>
        obtain ⟨i, l, rfl, hi, hro, hrs, hll, hbw⟩ := hrel
        by_cases hlt : i < b.length
        · obtain ⟨b0, off, rfl, hbl, hcl⟩ := hcellB (by omega)
          have k0 := (hbw.cell (p := ⟨b0, off + i, none⟩) hbl).trans (hcl i hlt)
          have hlt' : (i : Int) < (b.length : Int) := by omega
          have HTK : Hid (b.take (i + 1) = b.take i ++ [b[i]]) := hid (List.take_succ_eq_append_getElem hlt)
          clear hcl hcellB
          generalize b[i] = y at *
          have HW := fun u w2 (h : RdI w2 u l) => with_is u l y _ w2 h hrs (by omega)
          unfold WithOut at HW
          go_wp2_with (first
            | (go_at_call 26; refine (HW _ _ hro).mono ?_; rintro e w3 ⟨v3, l3, rfl, r3, s3, n3, b3'⟩; have b3 := hbw.trans (b3'.mono hbw.size); clear HW hro)
            | fail)
          go_roundw
          case rel => exact ⟨i + 1, l3, by go_num, by omega, r3, s3.congr (fun x => by rw [HTK.out, List.mem_append, List.mem_singleton, or_assoc]), by omega, b3⟩
          case measure => simp [intOf]; omega
        · have hge : ¬ (i : Int) < (b.length : Int) := by omega
          go_wp2_with fail
          go_ret
          rw [List.take_of_length_le (by omega)] at hrs
          exact ⟨_, l, rfl, hro, hrs, hbw⟩
set_option maxHeartbeats 2000000 in
set_option maxRecDepth 100000 in
theorem R5Right_is (v : Value) (l : List Int) (w : World) (hR : RdI w v l) (hl : l.length ≤ 4611686018427387904) :
    Calls Try.prog 7 #[v] w fun e w' => e = .returned (.bool (rightI l)) ∧ Below w.heap.size w w' := by
  obtain ⟨A, c, rfl, hc, hcell⟩ := hR
  go_enter Try.func7, Try.ntmps7
  go_wp2_with fail
  go_loopw [3] (fun iv wr => ∃ i : Nat, iv = .int .i64 i ∧ i ≤ l.length ∧ Hid (OkI (l.take i)) ∧ Below w.heap.size w wr) (fun iv _ => l.length - (intOf iv).toNat)
  case atStart => exact ⟨0, rfl, by omega, hid (by rw [List.take_zero]; exact OkI.nil), Below.refl _ _⟩
  case round =>
    obtain ⟨i, rfl, hi, HT, hb⟩ := hrel
    have hbd : ∀ q, Below w.heap.size w (wr.drewN q) := fun q => ⟨hb.os, hb.tape, hb.output, hb.size, hb.block⟩
    by_cases hlt : i < l.length
    · obtain ⟨ba, oa, rfl, hba, hcl⟩ := hcell (by omega)
      have c0 := (hb.cell (p := ⟨ba, oa + i, none⟩) hba).trans (hcl i hlt)
      have hlt' : (i : Int) < (l.length : Int) := by omega
      have HS : Hid (0 ≤ l[i] ∧ l[i] < 1099511627776 → (∀ hj : 0 < i, l[i - 1] < l[i]) → OkI (l.take (i + 1))) := hid (fun h1 h2 => OkI.step HT.out hlt h1 h2)
      have HN1 : Hid (¬ (0 ≤ l[i] ∧ l[i] < 1099511627776) → rightI l = false) := hid (fun h1 => decide_eq_false fun h => h1 (h.2.range hlt))
      by_cases hx0 : l[i] < 0
      · have HG := HN1.out (by omega)
        have hd : decide (l[i] < 0) = true := decide_eq_true hx0
        clear HS HN1 hcl hcell
        generalize l[i] = x at *
        go_wp2_with fail
        go_quiet (fail)
        go_wp2_with fail
        go_ret
        rw [HG]
        exact ⟨rfl, hbd _⟩
      · have hd : decide (l[i] < 0) = false := decide_eq_false hx0
        by_cases hx1 : 1099511627776 ≤ l[i]
        · have HG := HN1.out (by omega)
          have hd1 : decide (1099511627776 ≤ l[i]) = true := decide_eq_true hx1
          clear HS HN1 hcl hcell
          generalize l[i] = x at *
          go_wp2_with fail
          go_quiet (fail)
          go_wp2_with fail
          go_ret
          rw [HG]
          exact ⟨rfl, hbd _⟩
        · have hd1 : decide (1099511627776 ≤ l[i]) = false := decide_eq_false hx1
          by_cases h0 : 0 < i
          · have hd2 : decide ((0 : Int) < (i : Int)) = true := decide_eq_true (by omega)
            obtain ⟨k, hk⟩ : ∃ k, i = k + 1 := ⟨i - 1, by omega⟩
            have hkl : k < l.length := by omega
            have c1 := (hb.cell (p := ⟨ba, oa + k, none⟩) hba).trans (hcl k hkl)
            have zk : (i : Int) - 1 = (k : Int) := by omega
            have zk0 : (0 : Int) ≤ (k : Int) := by omega
            have zkl : (k : Int) < (l.length : Int) := by omega
            have HN2 : Hid (l[i] ≤ l[k] → rightI l = false) := hid (fun h1 => decide_eq_false fun h => by have := h.2.rise (i := k) (j := i) (by omega) hlt; omega)
            have HS2 : Hid (¬ l[i] ≤ l[k] → OkI (l.take (i + 1))) := hid (fun h1 => HS.out (by omega) (fun _ => by subst hk; simp at h1 ⊢; omega))
            have HK := hid hk
            clear HS HN1 hcl hcell hk
            generalize l[i] = x at *
            generalize l[k] = y at *
            by_cases hxy : x ≤ y
            · have hd3 : decide (x ≤ y) = true := decide_eq_true hxy
              have HG := HN2.out hxy
              go_wp2_with fail
              go_quiet (fail)
              go_wp2_with fail
              go_ret
              rw [HG]
              exact ⟨rfl, hbd _⟩
            · have hd3 : decide (x ≤ y) = false := decide_eq_false hxy
              have HG := hid (HS2.out hxy)
              go_wp2_with fail
              go_quiet (fail)
              go_wp2_with fail
              go_roundw
              case rel => exact ⟨i + 1, by go_num, by omega, HG, hbd _⟩
              case measure => simp [intOf]; omega
          · have hd2 : decide ((0 : Int) < (i : Int)) = false := decide_eq_false (by omega)
            have HG := hid (HS.out (by omega) (fun h => absurd h h0))
            clear HS HN1 hcl hcell
            generalize l[i] = x at *
            go_wp2_with fail
            go_quiet (fail)
            go_wp2_with fail
            go_roundw
            case rel => exact ⟨i + 1, by go_num, by omega, HG, hbd _⟩
            case measure => simp [intOf]; omega
    · have hge : ¬ (i : Int) < (l.length : Int) := by omega
      have HG : Hid (rightI l = decide ((l.length : Int) ≤ 65536)) := hid (by
        have := HT.out
        rw [List.take_of_length_le (by omega)] at this
        unfold rightI
        by_cases h : l.length ≤ 65536
        · simp [h, this]; omega
        · simp [h]; omega)
      clear hcell
      go_wp2_with fail
      go_ret
      rw [HG.out]
      exact ⟨rfl, hb⟩
end Go.Proofs.Ytcdfjkhjdiojbaa
