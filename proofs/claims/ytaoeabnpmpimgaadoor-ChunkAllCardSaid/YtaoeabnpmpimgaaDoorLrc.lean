/-
  Orders with three answers: of bytes, of labels, of lists of labels. No conditions.
  strings.Compare, laid at this dump: one application of a theorem of the kit's. No condition.
  What label.Compare answers, and chunk.Group's comparer. Conditions: the lists can be read.
  What the reference's Compare answers. Conditions: the lists can be read.
-/
import Derived.Test.YtaoeabnpmpimgaaDoorEntKnow
import Derived.Test.YtaoeabnpmpimgaaDoorOrder
import Derived.Shelf.Small.Strs
import Derived.Shelf.Small.Wraps
import Derived.Shelf.SlGeneric
import Derived.Ground.NamesProg
import Derived.Test.YtaoeabnpmpimgaaDoorProg
import Derived.Deep.RegionHeld3
section
namespace Go.Icz
open Go.RowKit Go.Lib
def cmpLab (x y : Lab) : Int := or2 (compareBytes x.1 y.1) (compareBytes x.2 y.2)
theorem labCmp : Cmp3 cmpLab := by
  have B := bytesCmp
  refine ⟨fun x y => ?_, fun x y => ?_, fun x y => ?_, fun x y z h1 h2 => ?_⟩
  · unfold cmpLab or2
    split
    · exact B.rng _ _
    · exact B.rng _ _
  · unfold cmpLab or2
    have h := B.neg x.1 y.1
    have h' := B.neg x.2 y.2
    rw [h, h']
    by_cases h0 : compareBytes x.1 y.1 = 0
    · simp [h0]
    · simp [h0]
  · unfold cmpLab or2
    by_cases h0 : compareBytes x.1 y.1 = 0
    · rw [if_neg (by omega), B.eq]
      have := (B.eq _ _).1 h0
      exact ⟨fun h => Prod.ext this h, fun h => by rw [h]⟩
    · rw [if_pos h0]
      exact ⟨fun h => absurd h h0, fun h => absurd ((B.eq _ _).2 (by rw [h])) h0⟩
  · unfold cmpLab or2 at *
    have r1 := B.rng x.1 y.1
    have r2 := B.rng y.1 z.1
    have l1 := B.le x.1 y.1 z.1
    by_cases e1 : compareBytes x.1 y.1 = 0
    · rw [if_neg (by omega)] at h1
      rw [(B.eq _ _).1 e1] at *
      by_cases e2 : compareBytes y.1 z.1 = 0
      · rw [if_neg (by omega)] at h2 ⊢
        exact B.le _ _ _ h1 h2
      · rw [if_pos e2] at h2 ⊢
        exact h2
    · rw [if_pos e1] at h1
      by_cases e2 : compareBytes y.1 z.1 = 0
      · rw [← (B.eq _ _).1 e2] at *
        rw [if_pos e1]
        exact h1
      · rw [if_pos e2] at h2
        have l2 := l1 h1 h2
        have : compareBytes x.1 z.1 ≠ 0 := fun e => by
          have e3 := (B.eq _ _).1 e
          rw [e3] at h1 e1
          have := B.neg z.1 y.1
          omega
        rw [if_pos this]
        exact l2
/-- Lists, by the first place at which they differ. -/
def cmpL : List Lab → List Lab → Int
  | [], [] => 0
  | [], _ :: _ => -1
  | _ :: _, [] => 1
  | a :: p1, b :: p2 => or2 (cmpLab a b) (cmpL p1 p2)
theorem listCmp : Cmp3 cmpL := by
  have L := labCmp
  refine ⟨?_, ?_, ?_, ?_⟩
  · intro x
    induction x with
    | nil => intro y; cases y <;> simp [cmpL]
    | cons a p1 ih =>
      intro y
      cases y with
      | nil => simp [cmpL]
      | cons b p2 =>
        unfold cmpL or2
        split
        · exact L.rng _ _
        · exact ih p2
  · intro x
    induction x with
    | nil => intro y; cases y <;> simp [cmpL]
    | cons a p1 ih =>
      intro y
      cases y with
      | nil => simp [cmpL]
      | cons b p2 =>
        unfold cmpL or2
        rw [L.neg a b, ih p2]
        by_cases h0 : cmpLab a b = 0 <;> simp [h0]
  · intro x
    induction x with
    | nil => intro y; cases y <;> simp [cmpL]
    | cons a p1 ih =>
      intro y
      cases y with
      | nil => simp [cmpL]
      | cons b p2 =>
        unfold cmpL or2
        by_cases h0 : cmpLab a b = 0
        · rw [if_neg (by omega), ih p2]
          have := (L.eq _ _).1 h0
          simp [this]
        · rw [if_pos h0]
          exact ⟨fun h => absurd h h0, fun h => absurd ((L.eq _ _).2 (by simp at h; exact h.1)) h0⟩
  · intro x
    induction x with
    | nil => intro y z _ _; cases z <;> simp [cmpL]
    | cons a p1 ih =>
      intro y z h1 h2
      cases y with
      | nil => simp [cmpL] at h1
      | cons b p2 =>
        cases z with
        | nil => simp [cmpL] at h2
        | cons c p3 =>
          unfold cmpL at h1 h2 ⊢
          unfold or2 at h1 h2 ⊢
          have r1 := L.rng a b
          have r2 := L.rng b c
          have l1 := L.le a b c
          by_cases e1 : cmpLab a b = 0
          · rw [if_neg (by omega)] at h1
            rw [(L.eq _ _).1 e1] at *
            by_cases e2 : cmpLab b c = 0
            · rw [if_neg (by omega)] at h2 ⊢
              exact ih p2 p3 h1 h2
            · rw [if_pos e2] at h2 ⊢
              exact h2
          · rw [if_pos e1] at h1
            by_cases e2 : cmpLab b c = 0
            · rw [← (L.eq _ _).1 e2] at *
              rw [if_pos e1]
              exact h1
            · rw [if_pos e2] at h2
              have l2 := l1 h1 h2
              have : cmpLab a c ≠ 0 := fun e => by
                have e3 := (L.eq _ _).1 e
                rw [e3] at h1 e1
                have := L.neg c b
                omega
              rw [if_pos this]
              exact l2
end Go.Icz
end
section
namespace Go.Proofs
open Go.Shelf
def Tryd.lays106_ren : Go.Shelf.Ren := ⟨fun | 106 => 48 | 213 => 69 | 265 => 83 | n => n, fun | 9 => 9 | 3 => 3 | n => n, fun | n => n⟩
theorem Tryd.lays106 : Go.Proofs.Lays.n106 Tryd.prog Tryd.lays106_ren := {
  mixed := by kernel_rfl
  f106 := Tryd.func48.trans (congrArg some (by kernel_rfl))
  f213 := Tryd.func69.trans (congrArg some (by kernel_rfl))
  f265 := Tryd.func83.trans (congrArg some (by kernel_rfl))
  t3 := Tryd.underlying3
  a3 := Tryd.isAgg3
  z3 := Tryd.sizeOf3
  v3 := Tryd.zeroValue3
  t9 := Tryd.underlying9
  a9 := Tryd.isAgg9
  z9 := Tryd.sizeOf9
  v9 := Tryd.zeroValue9 }
open Go.RowKit in
/-- strings.Compare: "Compare returns an integer comparing two strings lexicographically. The result will be 0 if a == b, -1 if a < b, and +1 if a > b.": IT RETURNS 'Lib.compareBytes a b'; the world is as it was. (LAID: no walk: one application.) -/
theorem Tryd.strings_Compare (a b : ByteArray) (w : World) :
    Calls Tryd.prog 48 #[.string a, .string b] w fun e w' => e = .returned (.int .i64 (Lib.compareBytes a.data.toList b.data.toList)) ∧ w' = w := Any.strings_Compare Tryd.lays106 a b w
end Go.Proofs
end
section
namespace Go.Proofs.YtaoeabnpmpimgaaDoor
open Go.RowKit Go.Icz
theorem two57 (W : World) (a b c d : Value) : (((W.alloc (.cells #[a, b] 65)).alloc (.cells #[c, d] 65)).cell? ⟨W.heap.size, 0, none⟩ = some a ∧ ((W.alloc (.cells #[a, b] 65)).alloc (.cells #[c, d] 65)).cell? ⟨W.heap.size, 1, none⟩ = some b ∧
    ((W.alloc (.cells #[a, b] 65)).alloc (.cells #[c, d] 65)).cell? ⟨W.heap.size + 1, 0, none⟩ = some c ∧ ((W.alloc (.cells #[a, b] 65)).alloc (.cells #[c, d] 65)).cell? ⟨W.heap.size + 1, 1, none⟩ = some d) ∧
    (∀ o, ((((W.alloc (.cells #[a, b] 65)).alloc (.cells #[c, d] 65)).drew.alloc o).cell? ⟨W.heap.size, 0, none⟩ = some a ∧ (((W.alloc (.cells #[a, b] 65)).alloc (.cells #[c, d] 65)).drew.alloc o).cell? ⟨W.heap.size, 1, none⟩ = some b ∧
    (((W.alloc (.cells #[a, b] 65)).alloc (.cells #[c, d] 65)).drew.alloc o).cell? ⟨W.heap.size + 1, 0, none⟩ = some c ∧ (((W.alloc (.cells #[a, b] 65)).alloc (.cells #[c, d] 65)).drew.alloc o).cell? ⟨W.heap.size + 1, 1, none⟩ = some d)) ∧
    Below W.heap.size W ((W.alloc (.cells #[a, b] 65)).alloc (.cells #[c, d] 65)) ∧ ((W.alloc (.cells #[a, b] 65)).alloc (.cells #[c, d] 65)).heap.size = W.heap.size + 2 := by
  have h1 := heap_alloc_new W (.cells #[a, b] 65)
  have h2 := heap_alloc_new (W.alloc (.cells #[a, b] 65)) (.cells #[c, d] 65)
  have hz : (W.alloc (.cells #[a, b] 65)).heap.size = W.heap.size + 1 := by simp
  rw [hz] at h2
  have h3 := (Below.heap_alloc (W.alloc (.cells #[a, b] 65)) (.cells #[c, d] 65) W.heap.size (by omega)).trans h1
  have hs : ((W.alloc (.cells #[a, b] 65)).alloc (.cells #[c, d] 65)).heap.size = W.heap.size + 2 := by simp
  refine ⟨⟨held_cell h3 rfl, held_cell h3 rfl, held_cell h2 rfl, held_cell h2 rfl⟩, fun o => ?_, ((Below.refl _ W).alloc (Nat.le_refl _) _).alloc (by omega) _, hs⟩
  have h4 := (Below.heap_alloc ((W.alloc (.cells #[a, b] 65)).alloc (.cells #[c, d] 65)).drew o W.heap.size (by show W.heap.size < ((W.alloc (.cells #[a, b] 65)).alloc (.cells #[c, d] 65)).heap.size; omega)).trans h3
  have h5 := (Below.heap_alloc ((W.alloc (.cells #[a, b] 65)).alloc (.cells #[c, d] 65)).drew o (W.heap.size + 1) (by show W.heap.size + 1 < ((W.alloc (.cells #[a, b] 65)).alloc (.cells #[c, d] 65)).heap.size; omega)).trans h2
  exact ⟨held_cell h4 rfl, held_cell h4 rfl, held_cell h5 rfl, held_cell h5 rfl⟩
set_option maxHeartbeats 2000000 in
set_option maxRecDepth 100000 in
theorem closure50 (x y : Lab) (W : World) : Calls Tryd.prog 46 #[.agg #[.string ⟨x.1.toArray⟩, .string ⟨x.2.toArray⟩], .agg #[.string ⟨y.1.toArray⟩, .string ⟨y.2.toArray⟩]] W fun e w' => e = .returned (.int .i64 (cmpLab x y)) ∧ Below W.heap.size W w' := by
  have hc := fun (a b : B8) W' => Tryd.strings_Compare ⟨a.toArray⟩ ⟨b.toArray⟩ W'
  simp only [] at hc
  obtain ⟨x1, x2⟩ := x
  obtain ⟨y1, y2⟩ := y
  have e0 : Hid (cmpLab (x1, x2) (y1, y2) = or2 (Lib.compareBytes x1 y1) (Lib.compareBytes x2 y2)) := hid rfl
  have hOr : ∀ (r1 r2 : Int) (w : World), Calls Tryd.prog 47 #[.slice (some ⟨w.heap.size, 0, none⟩) 2 2] (w.drew.alloc (.cells #[.int .i64 r1, .int .i64 r2] 3)) fun e w' => e = .returned (.int .i64 (or2 r1 r2)) ∧ w.drew.alloc (.cells #[.int .i64 r1, .int .i64 r2] 3) = w' := fun r1 r2 w => Or_is r1 r2 w.heap.size _ (ints_new w.drew r1 r2).1 (ints_new w.drew r1 r2).2
  simp only []
  go_enter Tryd.func46, Tryd.ntmps46
  go_wp2
  have k := two57 W (.string ⟨x1.toArray⟩) (.string ⟨x2.toArray⟩) (.string ⟨y1.toArray⟩) (.string ⟨y2.toArray⟩)
  generalize (W.alloc (.cells #[.string ⟨x1.toArray⟩, .string ⟨x2.toArray⟩] 65)).alloc (.cells #[.string ⟨y1.toArray⟩, .string ⟨y2.toArray⟩] 65) = W2 at *
  obtain ⟨⟨k0, k1, k2, k3⟩, hk, hb, hz⟩ := k
  clear hz
  go_region_held3 (fun w' => w'.cell? ⟨W.heap.size, 0, none⟩ = some (.string ⟨x1.toArray⟩) ∧ w'.cell? ⟨W.heap.size, 1, none⟩ = some (.string ⟨x2.toArray⟩) ∧ w'.cell? ⟨W.heap.size + 1, 0, none⟩ = some (.string ⟨y1.toArray⟩) ∧ w'.cell? ⟨W.heap.size + 1, 1, none⟩ = some (.string ⟨y2.toArray⟩)) (first | exact ⟨k0, k1, k2, k3⟩ | exact hk _ | go_keep) (first | (go_at_call 48; refine (hc _ _ _).mono ?_; rintro e w1 ⟨rfl, rfl⟩) | (go_at_call 47; refine (hOr _ _ _).mono ?_; rintro e w3 ⟨rfl, rfl⟩))
  all_goals
    go_wp2
    go_ret
    exact ⟨by rw [e0.out]; rfl, (hb.drew).alloc hb.size _⟩
set_option maxHeartbeats 2000000 in
set_option maxRecDepth 100000 in
theorem CompareFunc_is (v1 v2 : Value) (l1 l2 : List Lab) (w : World) (h1 : RdL w v1 l1) (h2 : RdL w v2 l2) (hm1 : l1.length ≤ 4611686018427387904) (hm2 : l2.length ≤ 4611686018427387904) :
    Calls Tryd.prog 45 #[v1, v2, .func (.func 46) #[] #[]] w fun e w' => e = .returned (.int .i64 (cmpL l1 l2)) ∧ Below w.heap.size w w' := by
  obtain ⟨A1, c1, rfl, hl1, hr1⟩ := h1
  obtain ⟨A2, c2, rfl, hl2, hr2⟩ := h2
  go_enter Tryd.func45, Tryd.ntmps45
  go_wp2
  go_loopw [13] (fun iv wr => ∃ i : Nat, iv = .int .i64 i ∧ i ≤ l1.length ∧ i ≤ l2.length ∧ Below w.heap.size w wr ∧ Hid (cmpL l1 l2 = cmpL (l1.drop i) (l2.drop i))) (fun iv _ => l1.length - (intOf iv).toNat)
  case atStart => exact ⟨0, rfl, by omega, by omega, Below.refl _ _, hid (by simp)⟩
  case round =>
    obtain ⟨i, rfl, hi1, hi2, hbw, HX⟩ := hrel
    by_cases hlt : i < l1.length
    · obtain ⟨b1, o1, rfl, hb1, hc1⟩ := hr1 (by omega)
      have a0 := (hbw.cell (p := ⟨b1, o1 + i * 2, none⟩) hb1).trans (hc1 i hlt).1
      have a1 := (hbw.cell (p := ⟨b1, o1 + i * 2 + 1, none⟩) hb1).trans (hc1 i hlt).2
      have hd1 : l1.drop i = l1[i] :: l1.drop (i + 1) := List.drop_eq_getElem_cons hlt
      by_cases hlt2 : i < l2.length
      · obtain ⟨b2, o2, rfl, hb2, hc2⟩ := hr2 (by omega)
        have hwz := hbw.size
        have d0' := (hbw.cell (p := ⟨b2, o2 + i * 2, none⟩) hb2).trans (hc2 i hlt2).1
        have d1' := (hbw.cell (p := ⟨b2, o2 + i * 2 + 1, none⟩) hb2).trans (hc2 i hlt2).2
        have d0 : ∀ o, (wr.alloc o).cell? ⟨b2, o2 + i * 2, none⟩ = _ := fun o => (((Below.refl wr.heap.size wr).alloc (Nat.le_refl _) o).cell (p := ⟨b2, o2 + i * 2, none⟩) (Nat.lt_of_lt_of_le hb2 hwz)).trans d0'
        have d1 : ∀ o, (wr.alloc o).cell? ⟨b2, o2 + i * 2 + 1, none⟩ = _ := fun o => (((Below.refl wr.heap.size wr).alloc (Nat.le_refl _) o).cell (p := ⟨b2, o2 + i * 2 + 1, none⟩) (Nat.lt_of_lt_of_le hb2 hwz)).trans d1'
        have hd2 : l2.drop i = l2[i] :: l2.drop (i + 1) := List.drop_eq_getElem_cons hlt2
        have HX2 : Hid (cmpL l1 l2 = or2 (cmpLab l1[i] l2[i]) (cmpL (l1.drop (i + 1)) (l2.drop (i + 1)))) := hid (by rw [HX.out, hd1, hd2]; rfl)
        have hcl := fun W => closure50 l1[i] l2[i] W
        clear hc1 hc2 hr1 hr2 hd1 hd2 HX d0' d1'
        generalize l1[i] = x at *
        generalize l2[i] = y at *
        by_cases h0 : cmpLab x y = 0
        · rw [h0] at hcl HX2
          go_wp2_with (go_at_call 46; refine (hcl _).mono ?_; rintro e w3 ⟨rfl, b3⟩)
          go_roundw
          case rel => exact ⟨i + 1, by go_num, by omega, by omega, hbw.trans ((below_push ((below_push b3).mono (by simp))).mono hwz), HX2⟩
          case measure => simp [intOf]; omega
        · have hb : (cmpLab x y == 0) = false := by simpa using h0
          have HX3 : Hid (cmpL l1 l2 = cmpLab x y) := hid (by rw [HX2.out]; unfold or2; rw [if_pos h0])
          generalize cmpLab x y = r at *
          clear HX2
          go_wp2_with (go_at_call 46; refine (hcl _).mono ?_; rintro e w3 ⟨rfl, b3⟩)
          go_ret
          exact ⟨by rw [HX3.out]; rfl, hbw.trans ((below_push ((below_push b3).mono (by simp))).mono hwz)⟩
      · have HX3 : Hid (cmpL l1 l2 = 1) := hid (by rw [HX.out, hd1, List.drop_eq_nil_of_le (show l2.length ≤ i by omega)]; rfl)
        clear hc1 hr1 hr2 hd1
        generalize l1[i] = x at *
        go_wp2
        go_ret
        exact ⟨by rw [HX3.out]; rfl, (hbw.alloc hbw.size _)⟩
    · by_cases hlt2 : l1.length < l2.length
      · have HX3 : Hid (cmpL l1 l2 = -1) := hid (by
          rw [HX.out, List.drop_eq_nil_of_le (show l1.length ≤ i by omega), List.drop_eq_getElem_cons (show i < l2.length by omega)]; rfl)
        clear hr1 hr2
        go_wp2
        go_ret
        exact ⟨by rw [HX3.out]; rfl, hbw⟩
      · have HX3 : Hid (cmpL l1 l2 = 0) := hid (by
          rw [HX.out, List.drop_eq_nil_of_le (show l1.length ≤ i by omega), List.drop_eq_nil_of_le (show l2.length ≤ i by omega)]; rfl)
        clear hr1 hr2
        go_wp2
        go_ret
        exact ⟨by rw [HX3.out]; rfl, hbw⟩
theorem LCompare_is (v1 v2 : Value) (l1 l2 : List Lab) (w : World) (h1 : RdL w v1 l1) (h2 : RdL w v2 l2) (hm1 : l1.length ≤ 4611686018427387904) (hm2 : l2.length ≤ 4611686018427387904) :
    Calls Tryd.prog 24 #[v1, v2] w fun e w' => e = .returned (.int .i64 (cmpL l1 l2)) ∧ Below w.heap.size w w' := by
  have h := CompareFunc_is v1 v2 l1 l2 w h1 h2 hm1 hm2
  generalize cmpL l1 l2 = r at *
  clear h1 h2
  go_enter Tryd.func24, Tryd.ntmps24
  go_wp2_with (go_at_call 45; refine h.mono ?_; rintro e w3 ⟨rfl, b3⟩)
  go_ret
  exact ⟨rfl, b3⟩
end Go.Proofs.YtaoeabnpmpimgaaDoor
end
section
namespace Go.Proofs.YtaoeabnpmpimgaaDoor
open Go.RowKit Go.Icz
theorem lab_cases (x y : Lab) : (Op.bytesLess x.1 y.1 = true ∧ cmpLab x y = -1) ∨ (Op.bytesLess x.1 y.1 = false ∧ (x.1 == y.1) = false ∧ cmpLab x y = 1) ∨
    (Op.bytesLess x.1 y.1 = false ∧ (x.1 == y.1) = true ∧ Op.bytesLess x.2 y.2 = true ∧ cmpLab x y = -1) ∨ (Op.bytesLess x.1 y.1 = false ∧ (x.1 == y.1) = true ∧ Op.bytesLess x.2 y.2 = false ∧ (x.2 == y.2) = false ∧ cmpLab x y = 1) ∨
    (Op.bytesLess x.1 y.1 = false ∧ (x.1 == y.1) = true ∧ Op.bytesLess x.2 y.2 = false ∧ (x.2 == y.2) = true ∧ cmpLab x y = 0) := by
  have B := bytesCmp
  simp only [less_iff, decide_eq_true_eq, decide_eq_false_iff_not, beq_iff_eq, beq_eq_false_iff_ne, ne_eq, ← B.eq, cmpLab, or2]
  rcases B.rng x.1 y.1 with h | h | h
  · rw [h]; simp
  · rw [h]
    rcases B.rng x.2 y.2 with g | g | g
    · rw [g]; simp
    · rw [g]; simp
    · rw [g]; simp
  · rw [h]; simp
set_option maxHeartbeats 4000000 in
set_option maxRecDepth 100000 in
theorem RefCompare_is (v1 v2 : Value) (l1 l2 : List Lab) (w : World) (h1 : RdL w v1 l1) (h2 : RdL w v2 l2) (hm1 : l1.length ≤ 4611686018427387904) (hm2 : l2.length ≤ 4611686018427387904) :
    Calls Tryd.prog 30 #[v1, v2] w fun e w' => e = .returned (.int .i64 (cmpL l1 l2)) ∧ Below w.heap.size w w' := by
  obtain ⟨A1, c1, rfl, hl1, hr1⟩ := h1
  obtain ⟨A2, c2, rfl, hl2, hr2⟩ := h2
  go_enter Tryd.func30, Tryd.ntmps30
  go_wp2
  go_loopw [5] (fun iv wr => ∃ i : Nat, iv = .int .i64 i ∧ i ≤ l1.length ∧ i ≤ l2.length ∧ Below w.heap.size w wr ∧ Hid (cmpL l1 l2 = cmpL (l1.drop i) (l2.drop i))) (fun iv _ => l1.length - (intOf iv).toNat)
  case atStart => exact ⟨0, rfl, by omega, by omega, Below.refl _ _, hid (by simp)⟩
  case round =>
    obtain ⟨i, rfl, hi1, hi2, hbw, HX⟩ := hrel
    by_cases hlt : i < l1.length
    · by_cases hlt2 : i < l2.length
      · obtain ⟨b1, o1, rfl, hb1, hc1⟩ := hr1 (by omega)
        obtain ⟨b2, o2, rfl, hb2, hc2⟩ := hr2 (by omega)
        have a0 := (hbw.cell (p := ⟨b1, o1 + i * 2, none⟩) hb1).trans (hc1 i hlt).1
        have a1 := (hbw.cell (p := ⟨b1, o1 + i * 2 + 1, none⟩) hb1).trans (hc1 i hlt).2
        have d0 := (hbw.cell (p := ⟨b2, o2 + i * 2, none⟩) hb2).trans (hc2 i hlt2).1
        have d1 := (hbw.cell (p := ⟨b2, o2 + i * 2 + 1, none⟩) hb2).trans (hc2 i hlt2).2
        have hd1 : l1.drop i = l1[i] :: l1.drop (i + 1) := List.drop_eq_getElem_cons hlt
        have hd2 : l2.drop i = l2[i] :: l2.drop (i + 1) := List.drop_eq_getElem_cons hlt2
        have HX2 : Hid (cmpL l1 l2 = or2 (cmpLab l1[i] l2[i]) (cmpL (l1.drop (i + 1)) (l2.drop (i + 1)))) := hid (by rw [HX.out, hd1, hd2]; rfl)
        have hcs := lab_cases l1[i] l2[i]
        clear hc1 hc2 hr1 hr2 hd1 hd2 HX
        generalize l1[i] = x at *
        generalize l2[i] = y at *
        obtain ⟨x1, x2⟩ := x
        obtain ⟨y1, y2⟩ := y
        simp only [] at a0 a1 d0 d1 hcs
        rcases hcs with ⟨e1, ec⟩ | ⟨e1, e2, ec⟩ | ⟨e1, e2, e3, ec⟩ | ⟨e1, e2, e3, e4, ec⟩ | ⟨e1, e2, e3, e4, ec⟩
        · rw [ec] at HX2
          clear ec
          go_wp2
          go_region
          go_wp2
          go_ret
          exact ⟨by rw [HX2.out]; rfl, hbw.drew⟩
        · rw [ec] at HX2
          clear ec
          go_wp2
          go_region
          go_wp2
          go_region
          go_wp2
          go_ret
          exact ⟨by rw [HX2.out]; rfl, hbw.drew.drew⟩
        · rw [ec] at HX2
          clear ec
          go_wp2
          go_region
          go_wp2
          go_region
          go_wp2
          go_region
          go_wp2
          go_ret
          exact ⟨by rw [HX2.out]; rfl, hbw.drew.drew.drew⟩
        · rw [ec] at HX2
          clear ec
          go_wp2
          go_region
          go_wp2
          go_region
          go_wp2
          go_region
          go_wp2
          go_region
          go_wp2
          go_ret
          exact ⟨by rw [HX2.out]; rfl, hbw.drew.drew.drew.drew⟩
        · rw [ec] at HX2
          clear ec
          go_wp2
          go_region
          go_wp2
          go_region
          go_wp2
          go_region
          go_wp2
          go_region
          go_wp2
          go_roundw
          case rel => exact ⟨i + 1, by go_num, by omega, by omega, hbw.drew.drew.drew.drew, HX2⟩
          case measure => simp [intOf]; omega
      · have HX3 : Hid (cmpL l1 l2 = 1) := hid (by rw [HX.out, List.drop_eq_getElem_cons hlt, List.drop_eq_nil_of_le (show l2.length ≤ i by omega)]; rfl)
        clear hr1 hr2 HX
        go_wp2
        go_ret
        exact ⟨by rw [HX3.out]; rfl, hbw⟩
    · by_cases hlt2 : i < l2.length
      · have HX3 : Hid (cmpL l1 l2 = -1) := hid (by rw [HX.out, List.drop_eq_nil_of_le (show l1.length ≤ i by omega), List.drop_eq_getElem_cons hlt2]; rfl)
        clear hr1 hr2 HX
        go_wp2
        go_ret
        exact ⟨by rw [HX3.out]; rfl, hbw⟩
      · have HX3 : Hid (cmpL l1 l2 = 0) := hid (by rw [HX.out, List.drop_eq_nil_of_le (show l1.length ≤ i by omega), List.drop_eq_nil_of_le (show l2.length ≤ i by omega)]; rfl)
        clear hr1 hr2 HX
        go_wp2
        go_ret
        exact ⟨by rw [HX3.out]; rfl, hbw⟩
end Go.Proofs.YtaoeabnpmpimgaaDoor
end
