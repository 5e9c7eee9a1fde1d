/-
  What postings' rising, among, And, Or and Not answer: lists in new memory that rise. Conditions: those that each theorem names.
-/
import Derived.Test.YtnlkipgjacgddaaDoorSetSh
namespace Go.Proofs.YtnlkipgjacgddaaDoor
open Go.RowKit Go.Icz Go.Lib Go.Sort
/-- A list of its own, rising, of what S says. -/
def RiseOut (w : World) (S : Int → Prop) (n : Nat) (e : Ending) (w' : World) : Prop :=
  ∃ v l, e = .returned v ∧ OwnI w' w.heap.size v l ∧ Rises l S ∧ l.length ≤ n ∧ Below w.heap.size w w'
set_option maxHeartbeats 1000000 in
set_option maxRecDepth 100000 in
theorem rising_is (v : Value) (L : List (List Int)) (w : World) (hR : RdSS w v L) (hk : L.length ≤ 4611686018427387904) (hlen : L.flatten.length ≤ 17592186044416) :
    Calls Tryd.prog 28 #[v] w (RiseOut w (fun x => x ∈ L.flatten) L.flatten.length) := by
  have h1 := Concat_is v L w hR hk hlen
  have HR := sorted_rises L.flatten
  have hml := compact_len (L.flatten.mergeSort fun x y => decide (x ≤ y))
  rw [mergeSort_len] at hml
  generalize L.flatten = l at *
  have HS := fun v2 w2 (h : OwnI w2 w.heap.size v2 l) => Sort_is h (by omega)
  have HC := fun v2 w2 (h : OwnI w2 w.heap.size v2 (l.mergeSort fun x y => decide (x ≤ y))) => Compact_is h
  obtain ⟨g, rfl, _, _⟩ := hR
  generalize (l.mergeSort fun x y => decide (x ≤ y)) = m at *
  generalize Lib.compact m = r at *
  go_enter Tryd.func28, Tryd.ntmps28
  go_wp2_with (first
    | (go_at_call 42; refine h1.mono ?_; rintro e w1 ⟨v1, rfl, o1, b1⟩; clear h1)
    | (go_at_call 43; refine (HS _ _ o1).mono ?_; rintro e w2 ⟨rfl, o2, b2'⟩; have b2 := b1.trans b2'; clear HS o1 b2')
    | (go_at_call 44; refine (HC _ _ o2).mono ?_; rintro e w3 ⟨v3, rfl, o3, b3'⟩; have b3 := b2.trans b3'; clear HC o2 b3')
    | fail)
  go_ret
  exact ⟨_, r, rfl, o3, HR, hml, b3⟩
set_option maxHeartbeats 1000000 in
set_option maxRecDepth 100000 in
theorem search_none (a : Option Addr) (c : Nat) (x : Int) (w : World) :
    Calls Tryd.prog 48 #[.slice a 0 c, .int .i64 x] w fun e w' => e = .returned (.tuple #[.int .i64 0, .bool false]) ∧ w' = w := by
  go_enter Tryd.func48, Tryd.ntmps48
  go_wp2
  go_loopw [7, 8] (fun s7 s8 wr => s7 = .int .i64 0 ∧ s8 = .int .i64 0 ∧ Hid (wr = w)) (fun _ _ _ => 0)
  case atStart => exact ⟨rfl, rfl, hid rfl⟩
  case round =>
    obtain ⟨rfl, rfl, hw⟩ := hrel
    go_wp2
    go_ret2
    exact ⟨rfl, hw.out⟩
set_option maxHeartbeats 1000000 in
set_option maxRecDepth 100000 in
theorem delete_none (fv : Value) (w : World) :
    Calls Tryd.prog 46 #[.slice none 0 0, fv] w fun e w' => e = .returned (.slice none 0 0) ∧ Below w.heap.size w w' := by
  have HI : ∀ w1, Calls Tryd.prog 59 #[.slice none 0 0, fv] w1 fun e w' => e = .returned (.int .i64 (-1)) ∧ Below w1.heap.size w1 w' := fun w1 => by
    go_enter Tryd.func59, Tryd.ntmps59
    go_wp2
    go_loopw [8] (fun s8 wr => s8 = .int .i64 0 ∧ Below w1.heap.size w1 wr) (fun _ _ => 0)
    case atStart => exact ⟨rfl, Below.refl _ _⟩
    case round =>
      obtain ⟨rfl, hw⟩ := hrel
      go_wp2
      go_ret
      exact ⟨rfl, hw⟩
  go_enter Tryd.func46, Tryd.ntmps46
  go_wp2_with (go_at_call 59; refine (HI _).mono ?_; rintro e w1 ⟨rfl, b1⟩)
  go_ret
  exact ⟨rfl, b1⟩
set_option maxHeartbeats 1000000 in
set_option maxRecDepth 100000 in
/-- The closure of among: whether x is in b is not what is asked. -/
theorem among1_is (x : Int) (gb gi : Nat) (vb : Value) (b : List Int) (want : Bool) (W : World) (h0 : W.cell? ⟨gb, 0, none⟩ = some vb) (h1 : W.cell? ⟨gi, 0, none⟩ = some (.bool want)) (hb : RdI W vb b) (hs : b.Pairwise (· < ·)) (hlen : b.length < 4611686018427387904) :
    Calls Tryd.prog 47 #[.int .i64 x, .pointer (some ⟨gb, 0, none⟩), .pointer (some ⟨gi, 0, none⟩)] W fun e w' => e = .returned (.bool (b.contains x != want)) ∧ ∃ q, w' = W.drewN q := by
  obtain ⟨A, c, rfl, hc, hcell⟩ := hb
  have hle : b.Pairwise (· ≤ ·) := hs.imp (fun h => by omega)
  have HB : Calls Tryd.prog 48 #[.slice A b.length c, .int .i64 x] W fun e w' => (∃ k : Int, e = .returned (.tuple #[.int .i64 k, .bool (b.contains x)])) ∧ ∃ q, w' = W.drewN q := by
    by_cases h0 : 0 < b.length
    · obtain ⟨bk, off, rfl, hbk, hcl⟩ := hcell h0
      have h := AnyG.slices_BinarySearch_int Tryd.searchI bk off b.length c b x W (Nat.le_refl _) hlen (fun j hj => by rw [hcl j hj]; simp [List.getD_eq_getElem?_getD, List.getElem?_eq_getElem hj]) (by rw [List.take_length]; exact hle)
      rw [List.take_length] at h
      refine (show Calls Tryd.prog 48 _ _ _ from h).mono ?_
      rintro e w' ⟨rfl, q, rfl⟩
      exact ⟨⟨_, rfl⟩, q, rfl⟩
    · obtain rfl : b = [] := List.eq_nil_of_length_eq_zero (by omega)
      refine (search_none A c x W).mono ?_
      rintro e w' ⟨rfl, rfl⟩
      exact ⟨⟨0, rfl⟩, 0, rfl⟩
  have HW : ∀ q, (W.drewN q).cell? ⟨gi, 0, none⟩ = some (.bool want) := fun q => h1
  clear hcell hle hs h1
  generalize b.contains x = r at *
  cases r <;> cases want <;>
  · go_enter Tryd.func47, Tryd.ntmps47
    go_wp2_with (go_at_call 48; refine HB.mono ?_; rintro e w1 ⟨⟨k, rfl⟩, q, rfl⟩; have hq := HW q; clear HB HW)
    go_ret
    exact ⟨rfl, q, rfl⟩
theorem OwnI.grown {w w' : World} {B g : Nat} {v : Value} {l : List Int} (h : OwnI w B v l) (hg : w.grownBy w' (some g)) (hB : g < B) : OwnI w' B v l := by
  refine World.ownsRow.kept h hg ?_
  rcases h.2 with ⟨rfl, _⟩ | ⟨k, cap, cur, rfl, hk, _⟩
  · exact .inl rfl
  · exact .inr (by simp [Value.ownBlock]; omega)
theorem grown_set (w : World) (g o : Nat) (u : Value) : w.grownBy (w.setCell ⟨g, o, none⟩ u) (some g) := by
  refine ⟨rfl, rfl, rfl, by simp [World.setCell], fun k _ hk => ?_⟩
  have hne : k ≠ g := fun e => hk (by rw [e])
  exact Below.heap_setCell _ _ _ _ hne
theorem below_sortWorld {B : Nat} {w0 w : World} {blk n : Nat} {dk : Array Int} {os : Array Obj} (h : Below B w0 w) (hg : B ≤ blk) (hB : B ≤ w.heap.size) : Below B w0 (sortWorld (Value.int .i64) w blk 0 n dk os) := by
  unfold sortWorld
  exact below_grow (below_putRow h hg) os (by simp [putRow, mapBlock, Sort.ahead]; exact hB)
set_option maxHeartbeats 1000000 in
set_option maxRecDepth 100000 in
theorem among_is (va vb : Value) (a b : List Int) (want : Bool) (w : World) (hA : RdI w va a) (hB : RdI w vb b) (ha : a.length ≤ 17592186044416) (hb : b.length ≤ 17592186044416) :
    Calls Tryd.prog 31 #[va, vb, .bool want] w (RiseOut w (fun x => x ∈ a ∧ (x ∈ b ↔ want = true)) a.length) := by
  obtain ⟨g, hg⟩ : ∃ g, g = w.heap.size := ⟨_, rfl⟩
  have HR : ∀ (x : Value) (l : List Int), l.length ≤ 17592186044416 → ∀ (w1 : World) (n : Nat), w1.heap.size = n → RdI w1 x l → Calls Tryd.prog 28 #[.slice (some ⟨n, 0, none⟩) 1 1] (w1.alloc (.cells #[x] 34)) (RiseOut (w1.alloc (.cells #[x] 34)) (fun y => y ∈ l) l.length) := fun x l hl w1 n hn h => by
    subst hn
    have h9 := rising_is _ [l] _ (RdSS.one h) (by simp) (by simpa using hl)
    simpa using h9
  have HR1 := HR vb b hb
  have HR2 := HR va a ha
  clear HR
  have eg : ∀ args w, (callFunc 47 args).run Tryd.prog w = .ok (.enter 47 args) w := enters_of Tryd.func47 (by kernel_rfl) rfl
  have HD : ∀ (w4 w5 : World) (v3 v5 : Value) (la lb : List Int), w4.cell? ⟨g, 0, none⟩ = some v3 → w4.cell? ⟨g + 1, 0, none⟩ = some (.bool want) → RdI w4 v3 lb → g + 1 < w4.heap.size → lb.Pairwise (· < ·) → lb.length < 4611686018427387904 → OwnI w5 w4.heap.size v5 la → Below w4.heap.size w4 w5 →
      Calls Tryd.prog 46 #[v5, .func (.func 47) #[] #[.pointer (some ⟨g, 0, none⟩), .pointer (some ⟨g + 1, 0, none⟩)]] w5 fun e w' => ∃ v', e = .returned v' ∧ OwnI w' w4.heap.size v' (la.filter fun x => !(lb.contains x != want)) ∧ Below w4.heap.size w5 w' := by
    intro w4 w5 v3 v5 la lb c0 c1 r3 hgs hs hlb o5 b5
    have key : ∀ W x, Below w4.heap.size w4 W → FnGives Tryd.prog 47 #[.pointer (some ⟨g, 0, none⟩), .pointer (some ⟨g + 1, 0, none⟩)] #[.int .i64 x] (.bool (lb.contains x != want)) W := fun W x hb =>
      among1_is x g (g + 1) v3 lb want W ((hb.cell (p := ⟨g, 0, none⟩) (show g < _ by omega)).trans c0) ((hb.cell (p := ⟨g + 1, 0, none⟩) hgs).trans c1) (r3.below hb) hs hlb
    refine delete_own (f := 46) (fun x => lb.contains x != want) o5 (fun blk cap hv hH h1 h2 h3 h4 => ?_) (fun _ => delete_none _ _) b5.size
    have h := AnyE.slices_DeleteFunc Tryd.deleteI (Value.int .i64) (fun _ => rfl) (fun x => lb.contains x != want) 47 #[.pointer (some ⟨g, 0, none⟩), .pointer (some ⟨g + 1, 0, none⟩)] eg 0 Tryd.zeroValue3 blk 0 cap la.toArray w5
      (fun W x hb => key W x (b5.trans (hb.mono b5.size))) (fun n os dk x _ => key _ x (below_sortWorld b5 h1 b5.size)) hH (by simpa using h3) (by simpa using h4)
    simpa using (show Calls Tryd.prog 46 _ _ _ from h)
  obtain ⟨W0, hW0⟩ : ∃ W0, W0 = (w.alloc (.cells #[vb] 34)).alloc (.cells #[.bool want] 4) := ⟨_, rfl⟩
  have z0 : W0.heap.size = w.heap.size + 2 := by rw [hW0]; simp
  have bl0 : Below w.heap.size w W0 := by rw [hW0]; exact ((Below.refl _ w).alloc (Nat.le_refl _) _).alloc (by simp) _
  have p0 : W0.cell? ⟨w.heap.size, 0, none⟩ = some vb := by rw [hW0]; simp
  have p1 : W0.cell? ⟨w.heap.size + 1, 0, none⟩ = some (.bool want) := by rw [hW0]; exact held_cell (by have := heap_alloc_new (w.alloc (.cells #[vb] 34)) (.cells #[.bool want] 4); simpa using this) rfl
  have f0 : W0.frozen? ⟨w.heap.size, 0, none⟩ = false := by rw [hW0]; simp
  have HB0 := hB.below bl0
  have HA0 := hA.below bl0
  obtain ⟨Av, cv, rfl, _, _⟩ := id hB
  obtain ⟨Aw, cw, rfl, _, _⟩ := id hA
  subst hg
  go_enter Tryd.func31, Tryd.ntmps31
  have t1 := True.intro
  go_wp2_with (first
    | (clear t1; go_at_call 28; rw [← hW0]; refine (HR1 _ _ (by omega) HB0).mono ?_; rintro e w3 ⟨v3, lb, rfl, o3, rs3, hl3, b3'⟩; have b3 := below_allocT (Nat.le_refl _) (b3'.mono (show W0.heap.size ≤ (W0.alloc (.cells #[.slice Av b.length cv] 34)).heap.size by simp)); have c0 := (b3.cell (p := ⟨w.heap.size, 0, none⟩) (show w.heap.size < _ by omega)).trans p0; have c1 := (b3.cell (p := ⟨w.heap.size + 1, 0, none⟩) (show w.heap.size + 1 < _ by omega)).trans p1; have g0 := (b3.frozen (p := ⟨w.heap.size, 0, none⟩) (show w.heap.size < _ by omega)).trans f0; obtain ⟨A3, c3, rfl, hc3, _⟩ := id o3.rd; obtain ⟨w4, hw4⟩ : ∃ w4, w4 = w3.setCell ⟨w.heap.size, 0, none⟩ (.slice A3 lb.length c3) := ⟨_, rfl⟩; have z4 : w4.heap.size = w3.heap.size := (by rw [hw4]; simp [World.setCell]); have q0 : w4.cell? ⟨w.heap.size, 0, none⟩ = some (.slice A3 lb.length c3) := (by rw [hw4]; exact World.cell?_setCell_same' _ _ _ (by rw [c0]; rfl)); have q1 : w4.cell? ⟨w.heap.size + 1, 0, none⟩ = some (.bool want) := (by rw [hw4, World.cell?_setCell_other _ _ _ _ (by simp)]; exact c1); have bw4 : Below w.heap.size w w4 := (by rw [hw4]; exact (bl0.trans (b3.mono (by omega))).setCell (Nat.le_refl _) _); have r4 : RdI w4 (.slice A3 lb.length c3) lb := (by rw [hw4]; exact (OwnI.grown o3 (grown_set _ _ _ _) (by simp; omega)).rd); have HA4 := hA.below bw4; have z3 := b3.size; clear HR1 HB0 HA0 p0 p1 f0 c1 b3 b3' hW0)
    | (go_at_call 28; rw [← hw4]; refine (HR2 _ _ z4 HA4).mono ?_; rintro e w5 ⟨v5, la, rfl, o5, rs5, hl5, b5⟩; have hd := HD _ w5 _ v5 la lb ((((Below.refl _ w4).alloc (Nat.le_refl _) (.cells #[.slice Aw a.length cw] 34)).cell (p := ⟨w.heap.size, 0, none⟩) (show w.heap.size < _ by omega)).trans q0) ((((Below.refl _ w4).alloc (Nat.le_refl _) (.cells #[.slice Aw a.length cw] 34)).cell (p := ⟨w.heap.size + 1, 0, none⟩) (show w.heap.size + 1 < _ by omega)).trans q1) (r4.alloc _) (by simp; omega) rs3.1 (by omega) o5 b5; have b5w := bw4.trans ((below_allocT (Nat.le_refl _) (b5.mono (show w4.heap.size ≤ (w4.alloc (.cells #[.slice Aw a.length cw] 34)).heap.size by simp))).mono bw4.size); have z5 : w.heap.size ≤ (w4.alloc (.cells #[.slice Aw a.length cw] 34)).heap.size := (by simp; omega); clear HR2 HD q0 q1)
    | (go_at_call 46; refine hd.mono ?_; rintro e w6 ⟨v6, rfl, o6, b6⟩; clear hd)
    | fail)
  go_ret
  refine ⟨v6, _, rfl, o6.mono z5, (rs5.filter _).congr fun x => ?_, Nat.le_trans (List.length_filter_le _ _) hl5, b5w.trans (b6.mono z5)⟩
  have hx := rs3.2 x
  cases want <;> by_cases h : x ∈ lb <;> simp_all
set_option maxRecDepth 100000 in
theorem And_is (va vb : Value) (a b : List Int) (w : World) (hA : RdI w va a) (hB : RdI w vb b) (ha : a.length ≤ 17592186044416) (hb : b.length ≤ 17592186044416) :
    Calls Tryd.prog 15 #[va, vb] w (RiseOut w (fun x => x ∈ a ∧ x ∈ b) a.length) := by
  have h := among_is va vb a b true w hA hB ha hb
  obtain ⟨Av, cv, rfl, _, _⟩ := id hB
  obtain ⟨Aw, cw, rfl, _, _⟩ := id hA
  go_enter Tryd.func15, Tryd.ntmps15
  go_wp2_with (go_at_call 31; refine h.mono ?_; rintro e w1 ⟨v1, l1, rfl, o1, rs1, hl1, b1⟩)
  go_ret
  exact ⟨v1, l1, rfl, o1, rs1.congr fun x => by simp, hl1, b1⟩
set_option maxRecDepth 100000 in
theorem Not_is (va vb : Value) (a b : List Int) (w : World) (hA : RdI w va a) (hB : RdI w vb b) (ha : a.length ≤ 17592186044416) (hb : b.length ≤ 17592186044416) :
    Calls Tryd.prog 18 #[va, vb] w (RiseOut w (fun x => x ∈ a ∧ ¬ x ∈ b) a.length) := by
  have h := among_is va vb a b false w hA hB ha hb
  obtain ⟨Av, cv, rfl, _, _⟩ := id hB
  obtain ⟨Aw, cw, rfl, _, _⟩ := id hA
  go_enter Tryd.func18, Tryd.ntmps18
  go_wp2_with (go_at_call 31; refine h.mono ?_; rintro e w1 ⟨v1, l1, rfl, o1, rs1, hl1, b1⟩)
  go_ret
  exact ⟨v1, l1, rfl, o1, rs1.congr fun x => by simp, hl1, b1⟩
set_option maxRecDepth 100000 in
theorem Or_is (va vb : Value) (a b : List Int) (w : World) (hA : RdI w va a) (hB : RdI w vb b) (hl : a.length + b.length ≤ 17592186044416) :
    Calls Tryd.prog 12 #[va, vb] w (RiseOut w (fun x => x ∈ a ∨ x ∈ b) (a.length + b.length)) := by
  have h := rising_is _ [a, b] _ (RdSS.two hA hB) (by simp) (by simpa using hl)
  have h9 : ∀ n, w.heap.size = n → Calls Tryd.prog 28 #[.slice (some ⟨n, 0, none⟩) 2 2] (w.alloc (.cells #[va, vb] 34)) (RiseOut (w.alloc (.cells #[va, vb] 34)) (fun y => y ∈ a ∨ y ∈ b) (a.length + b.length)) := fun n hn => by
    subst hn
    simpa using h
  obtain ⟨Av, cv, rfl, _, _⟩ := id hB
  obtain ⟨Aw, cw, rfl, _, _⟩ := id hA
  clear h
  go_enter Tryd.func12, Tryd.ntmps12
  go_wp2_with (go_at_call 28; refine (h9 _ rfl).mono ?_; rintro e w1 ⟨v1, l1, rfl, o1, rs1, hl1, b1⟩)
  go_ret
  exact ⟨v1, l1, rfl, o1.mono (by simp), rs1, hl1, below_allocT (Nat.le_refl _) (b1.mono (by simp))⟩
end Go.Proofs.YtnlkipgjacgddaaDoor
