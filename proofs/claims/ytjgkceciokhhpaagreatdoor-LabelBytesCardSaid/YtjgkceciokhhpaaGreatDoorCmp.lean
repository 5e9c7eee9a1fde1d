/-
  What label.Compare and the law's Same answer. Conditions: the lists can be read.
-/
import Derived.Test.YtjgkceciokhhpaaGreatDoorSort
import Derived.Deep.RegionHeld3
namespace Go.Proofs.YtjgkceciokhhpaaGreatDoor
open Go.RowKit Go.Icz

set_option maxRecDepth 100000 in
theorem Or_is (r1 r2 : Int) (b : Nat) (w : World) (h0 : w.cell? ⟨b, 0, none⟩ = some (.int .i64 r1)) (h1 : w.cell? ⟨b, 1, none⟩ = some (.int .i64 r2)) :
    Calls Tryz.prog 51 #[.slice (some ⟨b, 0, none⟩) 2 2] w fun e w' => e = .returned (.int .i64 (or2 r1 r2)) ∧ w = w' := by
  go_enter Tryz.func51, Tryz.ntmps51
  go_wp2
  go_loopw [8] (fun iv wr => wr = w ∧ ((iv = .int .i64 0) ∨ (iv = .int .i64 1 ∧ r1 = 0) ∨ (iv = .int .i64 2 ∧ r1 = 0 ∧ r2 = 0))) (fun iv _ => 2 - (intOf iv).toNat)
  case atStart => exact ⟨rfl, .inl rfl⟩
  case round =>
    obtain ⟨rfl, h | ⟨h, e1⟩ | ⟨h, e1, e2⟩⟩ := hrel
    · subst h
      by_cases hr : r1 = 0
      · subst hr
        go_wp2
        go_roundw
        case rel => simp
        case measure => simp [intOf]
      · have hb : (r1 == 0) = false := by simpa using hr
        go_wp2
        go_ret
        exact ⟨by unfold or2; rw [if_pos hr]; rfl, rfl⟩
    · subst h e1
      by_cases hr : r2 = 0
      · subst hr
        go_wp2
        go_roundw
        case rel => simp
        case measure => simp [intOf]
      · have hb : (r2 == 0) = false := by simpa using hr
        go_wp2
        go_ret
        exact ⟨by unfold or2; rw [if_neg (by simp)]; rfl, rfl⟩
    · subst h e1 e2
      go_wp2
      go_ret
      exact ⟨rfl, rfl⟩
theorem undrew' {B : Nat} {w w' : World} (h : Below B w.drew w') : Below B w w' := ⟨h.os, h.tape, h.output, h.size, h.block⟩
theorem ints_new (w : World) (r1 r2 : Int) : (w.alloc (.cells #[.int .i64 r1, .int .i64 r2] 3)).cell? ⟨w.heap.size, 0, none⟩ = some (.int .i64 r1) ∧ (w.alloc (.cells #[.int .i64 r1, .int .i64 r2] 3)).cell? ⟨w.heap.size, 1, none⟩ = some (.int .i64 r2) :=
  ⟨held_cell (heap_alloc_new w (.cells #[.int .i64 r1, .int .i64 r2] 3)) rfl, held_cell (heap_alloc_new w (.cells #[.int .i64 r1, .int .i64 r2] 3)) rfl⟩
theorem two57 (W : World) (a b c d : Value) : (((W.alloc (.cells #[a, b] 57)).alloc (.cells #[c, d] 57)).cell? ⟨W.heap.size, 0, none⟩ = some a ∧ ((W.alloc (.cells #[a, b] 57)).alloc (.cells #[c, d] 57)).cell? ⟨W.heap.size, 1, none⟩ = some b ∧
    ((W.alloc (.cells #[a, b] 57)).alloc (.cells #[c, d] 57)).cell? ⟨W.heap.size + 1, 0, none⟩ = some c ∧ ((W.alloc (.cells #[a, b] 57)).alloc (.cells #[c, d] 57)).cell? ⟨W.heap.size + 1, 1, none⟩ = some d) ∧
    (∀ o, ((((W.alloc (.cells #[a, b] 57)).alloc (.cells #[c, d] 57)).drew.alloc o).cell? ⟨W.heap.size, 0, none⟩ = some a ∧ (((W.alloc (.cells #[a, b] 57)).alloc (.cells #[c, d] 57)).drew.alloc o).cell? ⟨W.heap.size, 1, none⟩ = some b ∧
    (((W.alloc (.cells #[a, b] 57)).alloc (.cells #[c, d] 57)).drew.alloc o).cell? ⟨W.heap.size + 1, 0, none⟩ = some c ∧ (((W.alloc (.cells #[a, b] 57)).alloc (.cells #[c, d] 57)).drew.alloc o).cell? ⟨W.heap.size + 1, 1, none⟩ = some d)) ∧
    Below W.heap.size W ((W.alloc (.cells #[a, b] 57)).alloc (.cells #[c, d] 57)) ∧ ((W.alloc (.cells #[a, b] 57)).alloc (.cells #[c, d] 57)).heap.size = W.heap.size + 2 := by
  have h1 := heap_alloc_new W (.cells #[a, b] 57)
  have h2 := heap_alloc_new (W.alloc (.cells #[a, b] 57)) (.cells #[c, d] 57)
  have hz : (W.alloc (.cells #[a, b] 57)).heap.size = W.heap.size + 1 := by simp
  rw [hz] at h2
  have h3 := (Below.heap_alloc (W.alloc (.cells #[a, b] 57)) (.cells #[c, d] 57) W.heap.size (by omega)).trans h1
  have hs : ((W.alloc (.cells #[a, b] 57)).alloc (.cells #[c, d] 57)).heap.size = W.heap.size + 2 := by simp
  refine ⟨⟨held_cell h3 rfl, held_cell h3 rfl, held_cell h2 rfl, held_cell h2 rfl⟩, fun o => ?_, ((Below.refl _ W).alloc (Nat.le_refl _) _).alloc (by omega) _, hs⟩
  have h4 := (Below.heap_alloc ((W.alloc (.cells #[a, b] 57)).alloc (.cells #[c, d] 57)).drew o W.heap.size (by show W.heap.size < ((W.alloc (.cells #[a, b] 57)).alloc (.cells #[c, d] 57)).heap.size; omega)).trans h3
  have h5 := (Below.heap_alloc ((W.alloc (.cells #[a, b] 57)).alloc (.cells #[c, d] 57)).drew o (W.heap.size + 1) (by show W.heap.size + 1 < ((W.alloc (.cells #[a, b] 57)).alloc (.cells #[c, d] 57)).heap.size; omega)).trans h2
  exact ⟨held_cell h4 rfl, held_cell h4 rfl, held_cell h5 rfl, held_cell h5 rfl⟩
set_option maxHeartbeats 2000000 in
set_option maxRecDepth 100000 in
theorem closure50 (x y : Lab) (W : World) : Calls Tryz.prog 50 #[.agg #[.string ⟨x.1.toArray⟩, .string ⟨x.2.toArray⟩], .agg #[.string ⟨y.1.toArray⟩, .string ⟨y.2.toArray⟩]] W fun e w' => e = .returned (.int .i64 (cmpLab x y)) ∧ Below W.heap.size W w' := by
  have hc := fun (a b : B8) W' => Tryz.strings_Compare ⟨a.toArray⟩ ⟨b.toArray⟩ W'
  simp only [] at hc
  obtain ⟨x1, x2⟩ := x
  obtain ⟨y1, y2⟩ := y
  have e0 : Hid (cmpLab (x1, x2) (y1, y2) = or2 (Lib.compareBytes x1 y1) (Lib.compareBytes x2 y2)) := hid rfl
  have hOr : ∀ (r1 r2 : Int) (w : World), Calls Tryz.prog 51 #[.slice (some ⟨w.heap.size, 0, none⟩) 2 2] (w.drew.alloc (.cells #[.int .i64 r1, .int .i64 r2] 3)) fun e w' => e = .returned (.int .i64 (or2 r1 r2)) ∧ w.drew.alloc (.cells #[.int .i64 r1, .int .i64 r2] 3) = w' := fun r1 r2 w => Or_is r1 r2 w.heap.size _ (ints_new w.drew r1 r2).1 (ints_new w.drew r1 r2).2
  simp only []
  go_enter Tryz.func50, Tryz.ntmps50
  go_wp2
  have k := two57 W (.string ⟨x1.toArray⟩) (.string ⟨x2.toArray⟩) (.string ⟨y1.toArray⟩) (.string ⟨y2.toArray⟩)
  generalize (W.alloc (.cells #[.string ⟨x1.toArray⟩, .string ⟨x2.toArray⟩] 57)).alloc (.cells #[.string ⟨y1.toArray⟩, .string ⟨y2.toArray⟩] 57) = W2 at *
  obtain ⟨⟨k0, k1, k2, k3⟩, hk, hb, hz⟩ := k
  clear hz
  go_region_held3 (fun w' => w'.cell? ⟨W.heap.size, 0, none⟩ = some (.string ⟨x1.toArray⟩) ∧ w'.cell? ⟨W.heap.size, 1, none⟩ = some (.string ⟨x2.toArray⟩) ∧ w'.cell? ⟨W.heap.size + 1, 0, none⟩ = some (.string ⟨y1.toArray⟩) ∧ w'.cell? ⟨W.heap.size + 1, 1, none⟩ = some (.string ⟨y2.toArray⟩)) (first | exact ⟨k0, k1, k2, k3⟩ | exact hk _ | go_keep) (first | (go_at_call 44; refine (hc _ _ _).mono ?_; rintro e w1 ⟨rfl, rfl⟩) | (go_at_call 51; refine (hOr _ _ _).mono ?_; rintro e w3 ⟨rfl, rfl⟩))
  all_goals
    go_wp2
    go_ret
    exact ⟨by rw [e0.out]; rfl, (hb.drew).alloc hb.size _⟩
set_option maxHeartbeats 2000000 in
set_option maxRecDepth 100000 in
theorem Same_is (v1 v2 : Value) (l1 l2 : List Lab) (w : World) (h1 : RdL w v1 l1) (h2 : RdL w v2 l2) (hm : l1.length ≤ 4611686018427387904) :
    Calls Tryz.prog 22 #[v1, v2] w fun e w' => e = .returned (.bool (decide (l1 = l2))) ∧ Below w.heap.size w w' := by
  obtain ⟨A1, c1, rfl, hl1, hr1⟩ := h1
  obtain ⟨A2, c2, rfl, hl2, hr2⟩ := h2
  by_cases hlen : l1.length = l2.length
  · have hL : (l1.length : Int) = (l2.length : Int) := by omega
    go_enter Tryz.func22, Tryz.ntmps22
    go_wp2
    go_loopw [5] (fun iv wr => ∃ i : Nat, iv = .int .i64 i ∧ i ≤ l1.length ∧ Below w.heap.size w wr ∧ Hid (l1.take i = l2.take i)) (fun iv _ => l1.length - (intOf iv).toNat)
    case atStart => exact ⟨0, rfl, by omega, Below.refl _ _, hid (by simp)⟩
    case round =>
      obtain ⟨i, rfl, hi, hbw, HT⟩ := hrel
      by_cases hlt : i < l1.length
      · obtain ⟨b1, o1, rfl, hb1, hc1⟩ := hr1 (by omega)
        obtain ⟨b2, o2, rfl, hb2, hc2⟩ := hr2 (by omega)
        have hlt2 : i < l2.length := by omega
        have a0 := (hbw.cell (p := ⟨b1, o1 + i * 2, none⟩) hb1).trans (hc1 i hlt).1
        have a1 := (hbw.cell (p := ⟨b1, o1 + i * 2 + 1, none⟩) hb1).trans (hc1 i hlt).2
        have d0 := (hbw.cell (p := ⟨b2, o2 + i * 2, none⟩) hb2).trans (hc2 i hlt2).1
        have d1 := (hbw.cell (p := ⟨b2, o2 + i * 2 + 1, none⟩) hb2).trans (hc2 i hlt2).2
        have ht1 : l1.take (i + 1) = l1.take i ++ [l1[i]] := by rw [List.take_append_getElem]
        have ht2 : l2.take (i + 1) = l2.take i ++ [l2[i]] := by rw [List.take_append_getElem]
        have hne : l1[i] ≠ l2[i] → ¬ l1 = l2 := fun h e => by subst e; exact h rfl
        have HN : Hid (l1[i] ≠ l2[i] → ¬ l1 = l2) := hid hne
        have H1 := hid ht1
        have H2 := hid ht2
        clear hc1 hc2 hr1 hr2 ht1 ht2 hne
        generalize l1[i] = x at *
        generalize l2[i] = y at *
        obtain ⟨x1, x2⟩ := x
        obtain ⟨y1, y2⟩ := y
        simp only [] at a0 a1 d0 d1
        by_cases e1 : x1 = y1
        · by_cases e2 : x2 = y2
          · subst e1 e2
            go_wp2
            go_region
            go_wp2
            go_roundw
            case rel => exact ⟨i + 1, by go_num, by omega, hbw.drew, hid (by rw [H1.out, H2.out, HT.out])⟩
            case measure => simp [intOf]; omega
          · have hb : (x2 == y2) = false := by simpa using e2
            have HF : Hid (¬ l1 = l2) := hid (HN.out (fun e => e2 (by injection e)))
            subst e1
            go_wp2
            go_region
            go_wp2
            go_ret
            exact ⟨by rw [decide_eq_false HF.out]; rfl, hbw.drew⟩
        · have hb : (x1 == y1) = false := by simpa using e1
          have HF : Hid (¬ l1 = l2) := hid (HN.out (fun e => e1 (by injection e)))
          go_wp2
          go_region
          go_wp2
          go_ret
          exact ⟨by rw [decide_eq_false HF.out]; rfl, hbw.drew⟩
      · have hT : l1 = l2 := by
          have e := HT.out
          rwa [List.take_of_length_le (by omega), List.take_of_length_le (by omega)] at e
        have HTT := hid hT
        clear hT
        go_wp2
        go_ret
        exact ⟨by rw [decide_eq_true HTT.out]; rfl, hbw⟩
  · have hF : ¬ l1 = l2 := fun e => hlen (by rw [e])
    have hb : ((l1.length : Int) == (l2.length : Int)) = false := by simp; omega
    have HF := hid hF
    clear hr1 hr2 hF
    go_enter Tryz.func22, Tryz.ntmps22
    go_wp2
    go_ret
    exact ⟨by rw [decide_eq_false HF.out]; rfl, Below.refl _ _⟩

set_option maxHeartbeats 2000000 in
set_option maxRecDepth 100000 in
theorem CompareFunc_is (v1 v2 : Value) (l1 l2 : List Lab) (w : World) (h1 : RdL w v1 l1) (h2 : RdL w v2 l2) (hm1 : l1.length ≤ 4611686018427387904) (hm2 : l2.length ≤ 4611686018427387904) :
    Calls Tryz.prog 49 #[v1, v2, .func (.func 50) #[] #[]] w fun e w' => e = .returned (.int .i64 (cmpL l1 l2)) ∧ Below w.heap.size w w' := by
  obtain ⟨A1, c1, rfl, hl1, hr1⟩ := h1
  obtain ⟨A2, c2, rfl, hl2, hr2⟩ := h2
  go_enter Tryz.func49, Tryz.ntmps49
  go_wp2
  go_loopw [13] (fun iv wr => ∃ i : Nat, iv = .int .i64 i ∧ i ≤ l1.length ∧ i ≤ l2.length ∧ Below w.heap.size w wr ∧ Hid (cmpL l1 l2 = cmpL (l1.drop i) (l2.drop i))) (fun iv _ => l1.length - (intOf iv).toNat)
  case atStart => exact ⟨0, rfl, by omega, by omega, Below.refl _ _, hid (by simp)⟩
  case round =>
    obtain ⟨i, rfl, hi1, hi2, hbw, HX⟩ := hrel
    by_cases hlt : i < l1.length
    · obtain ⟨b1, o1, rfl, hb1, hc1⟩ := hr1 (by omega)
      have a0 := (hbw.cell (p := ⟨b1, o1 + i * 2, none⟩) hb1).trans (hc1 i hlt).1
      have a1 := (hbw.cell (p := ⟨b1, o1 + i * 2 + 1, none⟩) hb1).trans (hc1 i hlt).2
      have hd1 : l1.drop i = l1[i] :: l1.drop (i + 1) := List.drop_eq_getElem_cons hlt
      by_cases hlt2 : i < l2.length
      · obtain ⟨b2, o2, rfl, hb2, hc2⟩ := hr2 (by omega)
        have hwz := hbw.size
        have d0' := (hbw.cell (p := ⟨b2, o2 + i * 2, none⟩) hb2).trans (hc2 i hlt2).1
        have d1' := (hbw.cell (p := ⟨b2, o2 + i * 2 + 1, none⟩) hb2).trans (hc2 i hlt2).2
        have d0 : ∀ o, (wr.alloc o).cell? ⟨b2, o2 + i * 2, none⟩ = _ := fun o => (((Below.refl wr.heap.size wr).alloc (Nat.le_refl _) o).cell (p := ⟨b2, o2 + i * 2, none⟩) (Nat.lt_of_lt_of_le hb2 hwz)).trans d0'
        have d1 : ∀ o, (wr.alloc o).cell? ⟨b2, o2 + i * 2 + 1, none⟩ = _ := fun o => (((Below.refl wr.heap.size wr).alloc (Nat.le_refl _) o).cell (p := ⟨b2, o2 + i * 2 + 1, none⟩) (Nat.lt_of_lt_of_le hb2 hwz)).trans d1'
        have hd2 : l2.drop i = l2[i] :: l2.drop (i + 1) := List.drop_eq_getElem_cons hlt2
        have HX2 : Hid (cmpL l1 l2 = or2 (cmpLab l1[i] l2[i]) (cmpL (l1.drop (i + 1)) (l2.drop (i + 1)))) := hid (by rw [HX.out, hd1, hd2]; rfl)
        have hcl := fun W => closure50 l1[i] l2[i] W
        clear hc1 hc2 hr1 hr2 hd1 hd2 HX d0' d1'
        generalize l1[i] = x at *
        generalize l2[i] = y at *
        by_cases h0 : cmpLab x y = 0
        · rw [h0] at hcl HX2
          go_wp2_with (go_at_call 50; refine (hcl _).mono ?_; rintro e w3 ⟨rfl, b3⟩)
          go_roundw
          case rel => exact ⟨i + 1, by go_num, by omega, by omega, hbw.trans ((below_push ((below_push b3).mono (by simp))).mono hwz), HX2⟩
          case measure => simp [intOf]; omega
        · have hb : (cmpLab x y == 0) = false := by simpa using h0
          have HX3 : Hid (cmpL l1 l2 = cmpLab x y) := hid (by rw [HX2.out]; unfold or2; rw [if_pos h0])
          generalize cmpLab x y = r at *
          clear HX2
          go_wp2_with (go_at_call 50; refine (hcl _).mono ?_; rintro e w3 ⟨rfl, b3⟩)
          go_ret
          exact ⟨by rw [HX3.out]; rfl, hbw.trans ((below_push ((below_push b3).mono (by simp))).mono hwz)⟩
      · have HX3 : Hid (cmpL l1 l2 = 1) := hid (by rw [HX.out, hd1, List.drop_eq_nil_of_le (show l2.length ≤ i by omega)]; rfl)
        clear hc1 hr1 hr2 hd1
        generalize l1[i] = x at *
        go_wp2
        go_ret
        exact ⟨by rw [HX3.out]; rfl, (hbw.alloc hbw.size _)⟩
    · by_cases hlt2 : l1.length < l2.length
      · have HX3 : Hid (cmpL l1 l2 = -1) := hid (by
          rw [HX.out, List.drop_eq_nil_of_le (show l1.length ≤ i by omega), List.drop_eq_getElem_cons (show i < l2.length by omega)]; rfl)
        clear hr1 hr2
        go_wp2
        go_ret
        exact ⟨by rw [HX3.out]; rfl, hbw⟩
      · have HX3 : Hid (cmpL l1 l2 = 0) := hid (by
          rw [HX.out, List.drop_eq_nil_of_le (show l1.length ≤ i by omega), List.drop_eq_nil_of_le (show l2.length ≤ i by omega)]; rfl)
        clear hr1 hr2
        go_wp2
        go_ret
        exact ⟨by rw [HX3.out]; rfl, hbw⟩
theorem Compare_is (v1 v2 : Value) (l1 l2 : List Lab) (w : World) (h1 : RdL w v1 l1) (h2 : RdL w v2 l2) (hm1 : l1.length ≤ 4611686018427387904) (hm2 : l2.length ≤ 4611686018427387904) :
    Calls Tryz.prog 25 #[v1, v2] w fun e w' => e = .returned (.int .i64 (cmpL l1 l2)) ∧ Below w.heap.size w w' := by
  have h := CompareFunc_is v1 v2 l1 l2 w h1 h2 hm1 hm2
  generalize cmpL l1 l2 = r at *
  clear h1 h2
  go_enter Tryz.func25, Tryz.ntmps25
  go_wp2_with (go_at_call 49; refine h.mono ?_; rintro e w3 ⟨rfl, b3⟩)
  go_ret
  exact ⟨rfl, b3⟩
end Go.Proofs.YtjgkceciokhhpaaGreatDoor
