/-
  What no Iter, and one that nobody made, answer; the law's knows. No condition.
-/
import Derived.Test.YtcffagfkpkfgbaaMga
import Derived.Test.YtcffagfkpkfgbaaMgo
namespace Go.Icz
open Go.RowKit
/-- No Iter, or one that nobody made. -/
def ItZ (w : World) (v : Value) : Prop := v = .pointer none ∨ ∃ q : Nat, v = .pointer (some ⟨q, 0, none⟩) ∧ w.heap[q]? = some (.cells #[.slice none 0 0, .bool false, .map none, .int .i64 0] 50 (0, 0))
theorem ItZ.below {w w' : World} {v : Value} (h : ItZ w v) (k : Below w.heap.size w w') : ItZ w' v := by
  rcases h with rfl | ⟨q, rfl, h⟩
  · exact .inl rfl
  · exact .inr ⟨q, rfl, (k.block q (row_lt h)).trans h⟩
def kE (s t : Int) : EV := (⟨s, t, [], []⟩, none, 0)
def kA : List EV := [kE 4 1, kE 2 3]
def kB : List EV := [kE 4 1, kE 9 2]
def kL : List Ent := [⟨4, 1, [], []⟩, ⟨9, 2, [], []⟩, ⟨2, 3, [], []⟩]
theorem k_outs : (outs kyV [] (strm kyV false [kA, kB])).map (·.1) = kL := by rfl
theorem k_ord : ordB false kL = true := by decide
theorem k_ord2 : ordB true kL = false := by decide
end Go.Icz
namespace Go.Proofs.Ytcffagfkpkfgbaa
open Go.RowKit Go.Icz
set_option maxRecDepth 100000 in
theorem Next_z {w : World} {v : Value} (h : ItZ w v) : Calls Try.prog 16 #[v] w fun e w' => e = .returned (.tuple #[.agg zeroE, .bool false]) ∧ Below w.heap.size w w' := by
  have hb : Below w.heap.size w (w.alloc (.cells #[.int .i64 0, .int .i64 0, .slice none 0 0, .string ⟨#[]⟩] 34)) := (Below.refl _ w).alloc (Nat.le_refl _) _
  have hr := heap_alloc_new w (.cells #[.int .i64 0, .int .i64 0, .slice none 0 0, .string ⟨#[]⟩] 34)
  have d0 := held_cell (i := 0) hr rfl
  have d1 := held_cell (i := 1) hr rfl
  have d2 := held_cell (i := 2) hr rfl
  have d3 := held_cell (i := 3) hr rfl
  have f0 := held_frozen (i := 0) hr
  have f1 := held_frozen (i := 1) hr
  have f2 := held_frozen (i := 2) hr
  have f3 := held_frozen (i := 3) hr
  have fin : ∀ u0 u1 u2 u3, Below w.heap.size w (((((w.alloc (.cells #[.int .i64 0, .int .i64 0, .slice none 0 0, .string ⟨#[]⟩] 34)).setCell ⟨w.heap.size, 0, none⟩ u0).setCell ⟨w.heap.size, 1, none⟩ u1).setCell ⟨w.heap.size, 2, none⟩ u2).setCell ⟨w.heap.size, 3, none⟩ u3) := fun u0 u1 u2 u3 =>
    (((hb.setCell (Nat.le_refl _) _).setCell (Nat.le_refl _) _).setCell (Nat.le_refl _) _).setCell (Nat.le_refl _) _
  rcases h with rfl | ⟨q, rfl, h⟩
  · clear hr
    unfold zeroE
    go_enter Try.func16, Try.ntmps16
    go_wp2
    exact bodyPost_ret (v := .tuple #[.agg #[.int .i64 0, .int .i64 0, .slice none 0 0, .string ⟨#[]⟩], .bool false]) (by simp [results, Try.results16, go_sem, *]) rfl ⟨rfl, by first | exact hb | exact fin _ _ _ _⟩
  · have c0 := held_cell (i := 0) (row_alloc h (.cells #[.int .i64 0, .int .i64 0, .slice none 0 0, .string ⟨#[]⟩] 34)) rfl
    have hL : Calls Try.prog 22 #[.pointer (some ⟨q, 0, none⟩)] (w.alloc (.cells #[.int .i64 0, .int .i64 0, .slice none 0 0, .string ⟨#[]⟩] 34)) fun e w' => e = .returned (.int .i64 0) ∧ w.alloc (.cells #[.int .i64 0, .int .i64 0, .slice none 0 0, .string ⟨#[]⟩] 34) = w' := by
      clear d0 d1 d2 d3 f0 f1 f2 f3 fin hb h hr
      generalize w.alloc (.cells #[.int .i64 0, .int .i64 0, .slice none 0 0, .string ⟨#[]⟩] 34) = w1 at *
      go_enter Try.func22, Try.ntmps22
      go_wp2
      go_ret
      exact ⟨rfl, rfl⟩
    clear hr h c0
    unfold zeroE
    generalize hW : w.alloc (.cells #[.int .i64 0, .int .i64 0, .slice none 0 0, .string ⟨#[]⟩] 34) = w1 at *
    go_enter Try.func16, Try.ntmps16
    go_wp2
    go_loopw [6] (fun _ wr => wr = w1) (fun _ _ => 0)
    case atStart => rfl
    case round =>
      subst hrel
      go_wp2_with (go_at_call 22; refine hL.mono ?_; rintro e w2 ⟨rfl, rfl⟩)
      exact bodyPost_ret (v := .tuple #[.agg #[.int .i64 0, .int .i64 0, .slice none 0 0, .string ⟨#[]⟩], .bool false]) (by simp [results, Try.results16, go_sem, *]) rfl ⟨rfl, by first | exact hb | exact fin _ _ _ _⟩
theorem kRd (W : World) : RdR (((W.alloc (.cells (KEnt.cells kA).toArray 34)).alloc (.cells (KEnt.cells kB).toArray 34)).alloc (.cells #[.slice (some ⟨W.heap.size, 0, none⟩) 2 2, .slice (some ⟨W.heap.size + 1, 0, none⟩) 2 2] 22)) (.slice (some ⟨W.heap.size + 2, 0, none⟩) 2 2) [⟨some ⟨W.heap.size, 0, none⟩, 2, kA⟩, ⟨some ⟨W.heap.size + 1, 0, none⟩, 2, kB⟩] := by
  have a := (Kd.Own.lit (K := KEnt) (B := W.heap.size) W kA (by decide) (Nat.le_refl _)).rd
  have b := (Kd.Own.lit (K := KEnt) (B := (W.alloc (.cells (KEnt.cells kA).toArray 34)).heap.size) (W.alloc (.cells (KEnt.cells kA).toArray 34)) kB (by decide) (Nat.le_refl _)).rd
  have r := (Kd.Own.lit (K := KSl) (B := ((W.alloc (.cells (KEnt.cells kA).toArray 34)).alloc (.cells (KEnt.cells kB).toArray 34)).heap.size) ((W.alloc (.cells (KEnt.cells kA).toArray 34)).alloc (.cells (KEnt.cells kB).toArray 34)) [⟨some ⟨W.heap.size, 0, none⟩, 2, kA⟩, ⟨some ⟨W.heap.size + 1, 0, none⟩, 2, kB⟩] (by show 2 ≤ maxLen; decide) (Nat.le_refl _)).rd
  rw [World.size_alloc] at b
  rw [World.size_alloc, World.size_alloc] at r
  have good : ∀ w s t, wfI s → GoodE w (kE s t) := fun w s t h => ⟨Kd.Rd.nil w, h, Nat.zero_le _⟩
  refine ⟨r, fun x hx => ?_⟩
  simp only [List.mem_cons, List.not_mem_nil, or_false] at hx
  rcases hx with rfl | rfl
  · refine ⟨(a.alloc _).alloc _, fun y hy => ?_⟩
    simp only [kA, List.mem_cons, List.not_mem_nil, or_false] at hy
    rcases hy with rfl | rfl <;> exact good _ _ _ (by unfold wfI; decide)
  · refine ⟨b.alloc _, fun y hy => ?_⟩
    simp only [kB, List.mem_cons, List.not_mem_nil, or_false] at hy
    rcases hy with rfl | rfl <;> exact good _ _ _ (by unfold wfI; decide)
theorem map3 {M : List EV} (h : M.map (·.1) = kL) : ∃ x y z : EV, M = [x, y, z] ∧ x.1 = ⟨4, 1, [], []⟩ ∧ y.1 = ⟨9, 2, [], []⟩ ∧ z.1 = ⟨2, 3, [], []⟩ := by
  rcases M with _ | ⟨x, _ | ⟨y, _ | ⟨z, _ | ⟨u, t⟩⟩⟩⟩
  · simp [kL] at h
  · simp [kL] at h
  · simp [kL] at h
  · simp only [kL, List.map_cons, List.map_nil, List.cons.injEq, and_true] at h
    exact ⟨x, y, z, rfl, h.1, h.2.1, h.2.2⟩
  · simp [kL] at h
set_option maxRecDepth 100000 in
set_option maxHeartbeats 4000000 in
theorem knows_is (W : World) : Calls Try.prog 5 #[] W fun e w' => e = .returned (.bool true) ∧ Below W.heap.size W w' := by
  have ea : (.cells (KEnt.cells kA).toArray 34 : Obj) = .cells #[.int .i64 4, .int .i64 1, .slice none 0 0, .string ⟨#[]⟩, .int .i64 2, .int .i64 3, .slice none 0 0, .string ⟨#[]⟩] 34 := rfl
  have eb : (.cells (KEnt.cells kB).toArray 34 : Obj) = .cells #[.int .i64 4, .int .i64 1, .slice none 0 0, .string ⟨#[]⟩, .int .i64 9, .int .i64 2, .slice none 0 0, .string ⟨#[]⟩] 34 := rfl
  have hR := kRd W
  rw [ea, eb] at hR
  have hA := GAll_is _ false 0 _ _ hR (by show 2 ≤ 1099511627776; decide) (by show 4 ≤ 1099511627776; decide)
  have er : rowsOf [⟨some ⟨W.heap.size, 0, none⟩, 2, kA⟩, ⟨some ⟨W.heap.size + 1, 0, none⟩, 2, kB⟩] = [kA, kB] := rfl
  rw [er] at hA
  have hT : ∀ (u : Value) (M : List EV) w5, OwE w5 W.heap.size u M → M.map (·.1) = takeM 0 ((outs kyV [] (strm kyV false [kA, kB])).map (·.1)) →
      ∃ g c, u = .slice (some ⟨g, 0, none⟩) 3 c ∧ w5.cell? ⟨g, 0, none⟩ = some (.int .i64 4) ∧ w5.cell? ⟨g, 4, none⟩ = some (.int .i64 9) ∧ w5.cell? ⟨g, 8, none⟩ = some (.int .i64 2) ∧ ∀ w6, Below w5.heap.size w5 w6 → ∀ nb, Calls Try.prog 13 #[.slice (some ⟨g, 0, none⟩) 3 c, .bool nb] w6 fun e w' => e = .returned (.bool (!nb)) ∧ Below w6.heap.size w6 w' := by
    intro u M w5 ho hm
    have hm : M.map (·.1) = kL := by rw [hm, k_outs]; rfl
    have HM := hm
    obtain ⟨x, y, z, rfl, hx, hy, hz⟩ := map3 hm
    obtain ⟨g, c, rfl, _, _, _, hc⟩ := ho.1.block (by simp)
    have hrd := ho.1.rd
    refine ⟨g, c, rfl, ?_, ?_, ?_, fun w6 hb nb => ?_⟩
    · have := hc 0 (by simp) 0 (by decide)
      simp only [List.getElem_cons_zero, Nat.zero_mul, Nat.zero_add] at this
      rw [this]
      show some (Value.int .i64 x.1.seq) = _
      rw [hx]
    · have := hc 1 (by simp) 0 (by decide)
      simp only [List.getElem_cons_succ, List.getElem_cons_zero] at this
      refine Eq.trans this ?_
      show some (Value.int .i64 y.1.seq) = _
      rw [hy]
    · have := hc 2 (by simp) 0 (by decide)
      simp only [List.getElem_cons_succ, List.getElem_cons_zero] at this
      refine Eq.trans this ?_
      show some (Value.int .i64 z.1.seq) = _
      rw [hz]
    · have := GOrd_is _ nb _ w6 (hrd.below hb) (by simp)
      rw [HM] at this
      cases nb
      · rw [k_ord] at this; exact this
      · rw [k_ord2] at this; exact this
  have b3 : Below W.heap.size W (((W.alloc (.cells #[.int .i64 4, .int .i64 1, .slice none 0 0, .string ⟨#[]⟩, .int .i64 2, .int .i64 3, .slice none 0 0, .string ⟨#[]⟩] 34)).alloc (.cells #[.int .i64 4, .int .i64 1, .slice none 0 0, .string ⟨#[]⟩, .int .i64 9, .int .i64 2, .slice none 0 0, .string ⟨#[]⟩] 34)).alloc (.cells #[.slice (some ⟨W.heap.size, 0, none⟩) 2 2, .slice (some ⟨W.heap.size + 1, 0, none⟩) 2 2] 22)) := (((Below.refl _ W).alloc (Nat.le_refl _) _).alloc (by simp) _).alloc (by simp; omega) _
  clear ea eb hR er
  have t1 := True.intro
  have t2 := True.intro
  go_enter Try.func5, Try.ntmps5
  go_wp2_with (first
    | (go_at_call 9; refine hA.mono ?_; rintro e w5 ⟨u, M, rfl, ho, hm, hb5⟩; have bb := b3.trans (hb5.mono b3.size); obtain ⟨g, c, rfl, d0, d1, d2, hOr⟩ := hT u M w5 (ho.mono b3.size) hm; have O1 := hOr w5 (Below.refl _ _) false; clear hA ho hm hT)
    | (clear t1; go_at_call 13; refine O1.mono ?_; rintro e w6 ⟨rfl, b6⟩; have O2 := hOr w6 b6 true; clear O1)
    | (clear t2; go_at_call 13; refine O2.mono ?_; rintro e w7 ⟨rfl, b7⟩; clear O2))
  go_ret
  exact ⟨rfl, bb.trans ((b6.trans (b7.mono b6.size)).mono bb.size)⟩
end Go.Proofs.Ytcffagfkpkfgbaa
