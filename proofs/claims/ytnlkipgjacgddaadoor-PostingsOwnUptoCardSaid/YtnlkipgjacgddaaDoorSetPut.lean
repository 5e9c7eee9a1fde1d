/-
  What the law's Ints and num, and postings' Right and Put answer. Conditions: the lists can be read; sizes as each theorem names.
-/
import Derived.Test.YtnlkipgjacgddaaDoorSets
import Derived.Test.YtnlkipgjacgddaaDoorListB
import Derived.Test.YtnlkipgjacgddaaDoorJoin
namespace Go.Proofs.YtnlkipgjacgddaaDoor
open Go.RowKit Go.Icz
theorem num5_is (n : Int) (w : World) : Calls Tryd.prog 11 #[.int .i64 n] w fun e w' => e = .returned (.int .i64 n) ∧ w = w' := by
  go_enter Tryd.func11, Tryd.ntmps11
  go_wp2
  go_ret
  exact ⟨rfl, rfl⟩
theorem rightID_is (n : Int) (w : World) : Calls Tryd.prog 20 #[.int .i64 n] w fun e w' => e = .returned (.bool (decide (0 ≤ n ∧ n < 1099511627776))) ∧ w = w' := by
  by_cases h1 : 0 ≤ n
  · by_cases h2 : n < 1099511627776
    · have h3 : decide (0 ≤ n ∧ n < 1099511627776) = true := decide_eq_true ⟨h1, h2⟩
      rw [h3]
      go_enter Tryd.func20, Tryd.ntmps20
      go_wp2
      go_ret
      exact ⟨rfl, rfl⟩
    · have h3 : decide (0 ≤ n ∧ n < 1099511627776) = false := decide_eq_false fun h => h2 h.2
      rw [h3]
      go_enter Tryd.func20, Tryd.ntmps20
      go_wp2
      go_ret
      exact ⟨rfl, rfl⟩
  · have h3 : decide (0 ≤ n ∧ n < 1099511627776) = false := decide_eq_false fun h => h1 h.1
    rw [h3]
    go_enter Tryd.func20, Tryd.ntmps20
    go_wp2
    go_ret
    exact ⟨rfl, rfl⟩
set_option maxHeartbeats 1000000 in
set_option maxRecDepth 100000 in
/-- Are two lists the same? -/
theorem Ints_is (va vb : Value) (a b : List Int) (w : World) (hA : RdI w va a) (hB : RdI w vb b) (ha : a.length ≤ 4611686018427387904) :
    Calls Tryd.prog 13 #[va, vb] w fun e w' => e = .returned (.bool (decide (a = b))) ∧ Below w.heap.size w w' := by
  obtain ⟨Av, ca, rfl, hca, hcellA⟩ := hA
  obtain ⟨Bv, cb, rfl, hcb, hcellB⟩ := hB
  by_cases hl : a.length = b.length
  · have hl' : ((a.length : Int) != (b.length : Int)) = false := by simp; omega
    have HLL := hid hl
    have HD : Hid (a.length = b.length) := hid hl
    clear hl
    go_enter Tryd.func13, Tryd.ntmps13
    go_wp2_with fail
    go_loopw [5] (fun iv wr => ∃ i : Nat, iv = .int .i64 i ∧ i ≤ a.length ∧ Hid (a.take i = b.take i) ∧ Below w.heap.size w wr) (fun iv _ => a.length - (intOf iv).toNat)
    case atStart => exact ⟨0, rfl, by omega, hid (by simp), Below.refl _ _⟩
    case round =>
      obtain ⟨i, rfl, hi, HT, hb⟩ := hrel
      by_cases hlt : i < a.length
      · have hltb : i < b.length := by have := HLL.out; omega
        obtain ⟨ba, oa, rfl, hba, hca'⟩ := hcellA (by omega)
        obtain ⟨bb, ob, rfl, hbb, hcb'⟩ := hcellB (by omega)
        have c0 := (hb.cell (p := ⟨ba, oa + i, none⟩) hba).trans (hca' i hlt)
        have c1 := (hb.cell (p := ⟨bb, ob + i, none⟩) hbb).trans (hcb' i hltb)
        have HX : Hid (a[i] = b[i] → a.take (i + 1) = b.take (i + 1)) := hid (fun h => by rw [List.take_succ_eq_append_getElem hlt, List.take_succ_eq_append_getElem hltb, HT.out, h])
        have HN : Hid (a[i] ≠ b[i] → a ≠ b) := hid (fun h e => h (by simp [e]))
        have hlt' : (i : Int) < (a.length : Int) := by omega
        have hltb' : (i : Int) < (b.length : Int) := by omega
        clear hcellA hcellB hca' hcb'
        generalize a[i] = x at *
        generalize b[i] = y at *
        by_cases hxy : x = y
        · have hne : (x != y) = false := by simp [hxy]
          go_wp2_with fail
          go_quiet (fail)
          go_wp2_with fail
          go_roundw
          case rel => exact ⟨i + 1, by go_num, by omega, hid (HX.out hxy), ⟨hb.os, hb.tape, hb.output, hb.size, hb.block⟩⟩
          case measure => simp [intOf]; omega
        · have hne : (x != y) = true := by simp [hxy]
          have hab : decide (a = b) = false := decide_eq_false (HN.out hxy)
          go_wp2_with fail
          go_quiet (fail)
          go_wp2_with fail
          go_ret
          rw [hab]
          exact ⟨rfl, ⟨hb.os, hb.tape, hb.output, hb.size, hb.block⟩⟩
      · have hge : ¬ (i : Int) < (a.length : Int) := by omega
        have hab : decide (a = b) = true := decide_eq_true (by
          have h1 := HT.out
          have h2 := HLL.out
          rw [List.take_of_length_le (by omega), List.take_of_length_le (by omega)] at h1
          exact h1)
        go_wp2_with fail
        go_ret
        try rw [hab]
        exact ⟨rfl, hb⟩
  · have hab : decide (a = b) = false := decide_eq_false fun h => hl (by rw [h])
    have hl' : ((a.length : Int) != (b.length : Int)) = true := by simp; omega
    have HL := hid hl
    clear hl
    go_enter Tryd.func13, Tryd.ntmps13
    go_wp2_with fail
    go_ret
    rw [hab]
    exact ⟨rfl, Below.refl _ _⟩
theorem Ints_yes (va vb : Value) (a b : List Int) (w : World) (hA : RdI w va a) (hB : RdI w vb b) (ha : a.length ≤ 4611686018427387904) (h : a = b) :
    Calls Tryd.prog 13 #[va, vb] w fun e w' => e = .returned (.bool true) ∧ Below w.heap.size w w' := by
  have := Ints_is va vb a b w hA hB ha
  rwa [decide_eq_true h] at this
set_option maxHeartbeats 1000000 in
set_option maxRecDepth 100000 in
theorem PRight_is (v : Value) (l : List Int) (w : World) (hR : RdI w v l) (hl : l.length ≤ 4611686018427387904) :
    Calls Tryd.prog 33 #[v] w fun e w' => e = .returned (.bool (rightI l)) ∧ Below w.heap.size w w' := by
  obtain ⟨A, c, rfl, hc, hcell⟩ := hR
  by_cases h65 : l.length ≤ 65536
  · have HV : Hid (rightI l = decide (OkI l)) := hid (by unfold rightI; simp [h65])
    rw [HV.out]
    have h65' : ¬ (65536 : Int) < (l.length : Int) := by omega
    have HID := fun x w1 => rightID_is x w1
    go_enter Tryd.func33, Tryd.ntmps33
    go_wp2_with fail
    go_loopw [10] (fun iv wr => ∃ i : Nat, iv = .int .i64 i ∧ i ≤ l.length ∧ Hid (OkI (l.take i)) ∧ Below w.heap.size w wr) (fun iv _ => l.length - (intOf iv).toNat)
    case atStart => exact ⟨0, rfl, by omega, hid (by rw [List.take_zero]; exact OkI.nil), Below.refl _ _⟩
    case round =>
      obtain ⟨i, rfl, hi, HT, hb⟩ := hrel
      by_cases hlt : i < l.length
      · obtain ⟨ba, oa, rfl, hba, hcl⟩ := hcell (by omega)
        have c0 := (hb.cell (p := ⟨ba, oa + i, none⟩) hba).trans (hcl i hlt)
        have hlt' : (i : Int) < (l.length : Int) := by omega
        have HS : Hid (0 ≤ l[i] ∧ l[i] < 1099511627776 → (∀ hj : 0 < i, l[i - 1] < l[i]) → OkI (l.take (i + 1))) := hid (fun h1 h2 => OkI.step HT.out hlt h1 h2)
        have HN1 : Hid (¬ (0 ≤ l[i] ∧ l[i] < 1099511627776) → decide (OkI l) = false) := hid (fun h1 => decide_eq_false fun h => h1 (h.range hlt))
        have hID := HID l[i]
        by_cases hx : 0 ≤ l[i] ∧ l[i] < 1099511627776
        · rw [decide_eq_true hx] at hID
          by_cases h0 : i = 0
          · have hp : ¬ (0 : Int) < (i : Int) := by omega
            have HG : Hid (OkI (l.take (i + 1))) := hid (HS.out hx (fun h => absurd h (by omega)))
            clear HS HN1 hx hcl HID hcell h0
            generalize l[i] = x at *
            go_wp2_with (go_at_call 20; refine (hID _).mono ?_; rintro e w1 ⟨rfl, rfl⟩)
            go_roundw
            case rel => exact ⟨i + 1, by go_num, by omega, HG, hb⟩
            case measure => simp [intOf]; omega
          · have hp : (0 : Int) < (i : Int) := by omega
            obtain ⟨k, rfl⟩ : ∃ k, i = k + 1 := ⟨i - 1, by omega⟩
            have c1 := (hb.cell (p := ⟨ba, oa + k, none⟩) hba).trans (hcl k (by omega))
            have zk : ((k + 1 : Nat) : Int) - 1 = (k : Int) := by omega
            have zk0 : (0 : Int) ≤ (k : Int) := by omega
            have zkl : (k : Int) < (l.length : Int) := by omega
            have HN2 : Hid (¬ l[k] < l[k + 1] → decide (OkI l) = false) := hid (fun h1 => decide_eq_false fun h => h1 (h.rise (by omega) hlt))
            have HS2 : Hid (l[k] < l[k + 1] → OkI (l.take (k + 1 + 1))) := hid (fun h1 => HS.out hx (fun _ => h1))
            clear HS HN1 hx hcl HID hcell
            generalize l[k + 1] = x at *
            generalize l[k] = y at *
            by_cases hyx : y < x
            · have hyx' : ¬ x ≤ y := by omega
              go_wp2_with (go_at_call 20; refine (hID _).mono ?_; rintro e w1 ⟨rfl, rfl⟩)
              go_roundw
              case rel => exact ⟨k + 1 + 1, by go_num, by omega, hid (HS2.out hyx), hb⟩
              case measure => simp [intOf]; omega
            · have hyx' : x ≤ y := by omega
              go_wp2_with (go_at_call 20; refine (hID _).mono ?_; rintro e w1 ⟨rfl, rfl⟩)
              go_ret
              rw [HN2.out hyx]
              exact ⟨rfl, hb⟩
        · rw [decide_eq_false hx] at hID
          have HG := HN1.out hx
          clear HS HN1 hx hcl HID hcell
          generalize l[i] = x at *
          go_wp2_with (go_at_call 20; refine (hID _).mono ?_; rintro e w1 ⟨rfl, rfl⟩)
          go_ret
          try rw [HG]
          exact ⟨rfl, hb⟩
      · have hge : ¬ (i : Int) < (l.length : Int) := by omega
        have HG : decide (OkI l) = true := decide_eq_true (by
          have := HT.out
          rwa [List.take_of_length_le (by omega)] at this)
        have HGG := hid HG
        clear HG
        go_wp2_with fail
        go_ret
        rw [HGG.out]
        exact ⟨rfl, hb⟩
  · have HV : Hid (rightI l = false) := hid (decide_eq_false fun h => h65 h.1)
    rw [HV.out]
    have h65' : (65536 : Int) < (l.length : Int) := by omega
    go_enter Tryd.func33, Tryd.ntmps33
    go_wp2_with fail
    go_ret
    exact ⟨rfl, Below.refl _ _⟩
/-- A list's bytes, or an error. -/
def PutOut (l : List Int) (w : World) (e : Ending) (w' : World) : Prop :=
  ∃ v, e = .returned (.tuple #[v, .int .i64 (if rightI l = true then 0 else 1)]) ∧ Rd w' v (if rightI l = true then listB l else []) ∧ Below w.heap.size w w'
set_option maxHeartbeats 2000000 in
set_option maxRecDepth 100000 in
theorem PPut_is (v : Value) (l : List Int) (w : World) (hR : RdI w v l) (hl : l.length ≤ 4611686018427387904) :
    Calls Tryd.prog 17 #[v] w (PutOut l w) := by
  have hRt := PRight_is v l w hR hl
  cases hr : rightI l with
  | false =>
    rw [hr] at hRt
    have HR := hid hr
    obtain ⟨A, c, rfl, _, _⟩ := hR
    clear hr
    go_enter Tryd.func17, Tryd.ntmps17
    go_wp2_with (go_at_call 33; refine hRt.mono ?_; rintro e w1 ⟨rfl, b1⟩; clear hRt)
    go_ret2
    unfold PutOut
    rw [HR.out, if_neg (by decide), if_neg (by decide)]
    exact ⟨_, rfl, Rd.nil _, b1⟩
  | true =>
    rw [hr] at hRt
    have HR := hid hr
    have hok : l.length ≤ 65536 ∧ OkI l := by unfold rightI at hr; simpa using hr
    clear hr
    obtain ⟨A, c, rfl, hlc, hcell⟩ := hR
    have hNu := fun w1 => Number_yes (l.length : Int) w1 (by omega) (by omega)
    rw [Int.toNat_natCast] at hNu
    have hnl := num_len8 (n := l.length) (by omega)
    have e0 : ([] : List Nat).length + (num l.length).length ≤ 140737488355328 := by simp; omega
    have h65 := hok.1
    have HOK := hid hok.2
    clear hok
    go_enter Tryd.func17, Tryd.ntmps17
    go_wp2_with (first
      | (go_at_call 33; refine hRt.mono ?_; rintro e w1 ⟨rfl, b1⟩; clear hRt)
      | (go_at_call 35; refine (hNu _).mono ?_; rintro e w3 ⟨v3, rfl, o3, b3⟩; have W3 := WrAt.below (WrAt.new w1) b3; have d3 : Below w1.heap.size w1 w3 := below_push b3; have z3 : w1.heap.size + 1 ≤ w3.heap.size := (by have := b3.size; simpa using this); clear hNu b3)
      | (go_at_call 34; refine (Eadd_is _ _ _ _ _ _ W3 o3.rd e0 z3).mono ?_; rintro e w4 ⟨rfl, W4, b4⟩; have d4 := d3.trans b4; have z4 := Nat.le_trans z3 b4.size; clear W3 o3 b4 d3 z3 e0))
    have c1 := b1
    generalize hg : w1.heap.size = g at *
    go_loopw [5, 19] (fun av kv wr => ∃ (i : Nat) (acc : List Nat), kv = .int .i64 i ∧ av = .int .i64 (aheadI l i) ∧ i ≤ l.length ∧ WrAt wr (g + 1) g acc 0 ∧ Below g w1 wr ∧ g + 1 ≤ wr.heap.size ∧ acc.length ≤ 8 + 8 * i ∧ Hid (acc = num l.length ++ numsB (difs (-1) (l.take i)))) (fun _ kv _ => l.length - (intOf kv).toNat)
    case atStart => exact ⟨0, num l.length, rfl, rfl, by omega, by simpa using W4, d4, z4, by omega, hid (by simp [difs, numsB])⟩
    case round =>
      obtain ⟨i, acc, rfl, rfl, hi, hW, hd, hzr, hacc, HX⟩ := hrel
      have hbr : Below w.heap.size w wr := c1.trans (hd.mono (by have := c1.size; omega))
      by_cases hlt : i < l.length
      · obtain ⟨b, off, rfl, hb, hcl⟩ := hcell (by omega)
        have c0 := (hbr.cell (p := ⟨b, off + i, none⟩) hb).trans (hcl i hlt)
        have hlt' : (i : Int) < (l.length : Int) := by omega
        have hrg := HOK.out.range hlt
        have hah : -1 ≤ aheadI l i ∧ aheadI l i < l[i] := by
          unfold aheadI
          by_cases h0 : i = 0
          · subst h0; simp; omega
          · have h1 : i - 1 < l.length := by omega
            have h2 := HOK.out.rise (i := i - 1) (j := i) (by omega) hlt
            have h3 := HOK.out.range h1
            simp [h0, List.getD_eq_getElem?_getD, List.getElem?_eq_getElem h1]
            omega
        have hx1 : aheadI l (i + 1) = l[i] := by simp [aheadI, List.getD_eq_getElem?_getD, List.getElem?_eq_getElem hlt]
        have HX2 : Hid (acc ++ num (l[i] - aheadI l i - 1).toNat = num l.length ++ numsB (difs (-1) (l.take (i + 1)))) := hid (by
          rw [difs_take l (-1) i hlt, numsB_app, HX.out, List.append_assoc]
          unfold aheadI
          simp [numsB])
        have HX1 := hid hx1
        clear HX hx1 hcl
        generalize l[i] = x at *
        generalize aheadI l i = p at *
        have hnx : x - p - 1 < 72057594037927936 := by omega
        have hn0 : 0 ≤ x - p - 1 := by omega
        have hNu := fun w1 => Number_yes (x - p - 1) w1 hn0 hnx
        have h8 := num_len8 (n := (x - p - 1).toNat) (by omega)
        generalize num (x - p - 1).toNat = t at *
        have zw1 : IntKind.i64.wrap (x - p) = x - p := by rw [IntKind.wrap_i64]; omega
        have zw2 : IntKind.i64.wrap (x - p - 1) = x - p - 1 := by rw [IntKind.wrap_i64]; omega
        have e1 : acc.length + t.length ≤ 140737488355328 := by omega
        have e2 : (acc ++ t).length ≤ 8 + 8 * (i + 1) := by simp; omega
        go_wp2_with (first
          | (go_at_call 35; refine (hNu _).mono ?_; rintro e w7 ⟨v7, rfl, o7, b7⟩; have W7 := WrAt.below hW b7; have d7 := hd.trans (b7.mono (by omega)); have z7 := Nat.le_trans hzr b7.size; clear hNu b7 hW hd hzr)
          | (go_at_call 34; refine (Eadd_is _ _ _ _ _ _ W7 o7.rd e1 z7).mono ?_; rintro e w8 ⟨rfl, W8, b8⟩; have d8 := d7.trans b8; have z8 := Nat.le_trans z7 b8.size; clear W7 o7 b8 d7 z7 e1)
          | fail)
        go_roundw
        case rel => exact ⟨i + 1, acc ++ t, by go_num, by rw [HX1.out], by omega, W8, d8, z8, e2, HX2⟩
        case measure => simp [intOf]; omega
      · have HE : Hid (listB l = acc) := hid (by rw [HX.out, List.take_of_length_le (by omega)]; rfl)
        have hge : ¬ (i : Int) < (l.length : Int) := by omega
        clear hcell HX
        go_wp2_with (go_at_call 36; refine (Edone_is _ _ _ _ hW).mono ?_; rintro e w11 ⟨v11, rfl, o11, rfl⟩; clear hW)
        go_ret2
        unfold PutOut
        rw [HR.out, if_pos rfl, if_pos rfl, HE.out]
        exact ⟨_, rfl, o11.rd, hbr⟩
end Go.Proofs.YtnlkipgjacgddaaDoor
