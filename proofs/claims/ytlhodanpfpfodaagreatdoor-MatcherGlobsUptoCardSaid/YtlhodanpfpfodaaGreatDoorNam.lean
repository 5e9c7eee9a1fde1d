/-
  The text that matcher's Parse reads: a name. Conditions: those that each theorem names.
-/
import Derived.Test.YtlhodanpfpfodaaGreatDoorIdxB
import Derived.Test.YtlhodanpfpfodaaGreatDoorOpS
namespace Go.Icz
open Go.RowKit
/-- A name ends at a blank, or at a sign. -/
def nameEnd (c : UInt8) : Bool := c == 32 || c == 61 || c == 33
end Go.Icz
namespace Go.Proofs.YtlhodanpfpfodaaGreatDoor
open Go.RowKit Go.Icz
theorem set_end (c : UInt8) : nameSet.contains c = nameEnd c := by
  unfold nameSet nameEnd
  rw [List.contains_cons, List.contains_cons, List.contains_cons, List.contains_nil, Bool.or_false, Bool.or_assoc]
theorem indexAny_name : ∀ l : B8, (l.dropWhile (fun c => !nameEnd c) = [] → Lib.indexAny l nameSet = -1) ∧ (l.dropWhile (fun c => !nameEnd c) ≠ [] → Lib.indexAny l nameSet = ((l.takeWhile fun c => !nameEnd c).length : Int))
  | [] => ⟨fun _ => rfl, fun h => absurd rfl h⟩
  | c :: t => by
    obtain ⟨i1, i2⟩ := indexAny_name t
    unfold Lib.indexAny
    rw [set_end]
    cases hc : nameEnd c
    · have d : (c :: t).dropWhile (fun c => !nameEnd c) = t.dropWhile fun c => !nameEnd c := by simp [hc]
      have k : (c :: t).takeWhile (fun c => !nameEnd c) = c :: t.takeWhile fun c => !nameEnd c := by simp [hc]
      rw [d, k, if_neg (by decide)]
      refine ⟨fun h => by rw [i1 h]; rfl, fun h => ?_⟩
      rw [i2 h, if_neg (by rw [beq_iff_eq]; omega), List.length_cons]
      omega
    · have d : (c :: t).dropWhile (fun c => !nameEnd c) = c :: t := by simp [hc]
      have k : (c :: t).takeWhile (fun c => !nameEnd c) = [] := by simp [hc]
      rw [d, k, if_pos rfl]
      exact ⟨fun h => absurd h (by simp), fun _ => rfl⟩
set_option maxHeartbeats 2000000 in
set_option maxRecDepth 100000 in
theorem Tname_no (g : Nat) (p : Value) (l : B8) (w : World) (h : TxAt w g l) (hl : l.length < 4294967281) (hn : l.dropWhile (fun c => !nameEnd c) = []) :
    Calls Tryz.prog 120 #[.pointer (some ⟨g, 0, none⟩), p] w fun e w' => e = .returned (.bool false) ∧ Below w.heap.size w w' := by
  have hI := fun w1 => IndexAny_is ⟨l.toArray⟩ (by rw [Lib.size_mk]; exact hl) w1
  have hv : Lib.indexAny (⟨l.toArray⟩ : ByteArray).data.toList nameSet = -1 := (indexAny_name l).1 hn
  rw [hv] at hI
  have c0 := h.cell
  clear hn hv
  go_enter Tryz.func120, Tryz.ntmps120
  go_wp2_with (go_at_call 144; refine (hI _).mono ?_; rintro e w1 ⟨rfl, b1⟩)
  go_ret
  exact ⟨rfl, b1⟩
theorem sClone_is (s : ByteArray) (hs : s.size ≤ 281474976710656) (w : World) : Calls Tryz.prog 145 #[.string s] w fun e w' => e = .returned (.string s) ∧ Below w.heap.size w w' := by
  have hC : ∀ w2 : World, Calls Tryz.prog 168 #[.string s] w2 fun e w' => e = .returned (.string s) ∧ Below w2.heap.size w2 w' := fun w2 => Any.stringslite_Clone Tryz.laysM316 s w2 hs
  clear hs
  go_enter Tryz.func145, Tryz.ntmps145
  go_wp2_with (go_at_call 168; refine (hC _).mono ?_; rintro e w1 ⟨rfl, b1⟩)
  go_ret
  exact ⟨rfl, b1⟩
set_option maxHeartbeats 2000000 in
set_option maxRecDepth 100000 in
theorem Tname_yes (g b i : Nat) (l : B8) (cs : Array Value) (t : TypeId) (s0 : ByteArray) (w : World) (h : TxAt w g l) (hr : w.heap[b]? = some (.cells cs t (0, 0))) (hi : cs[i]? = some (.string s0)) (hne : b ≠ g) (hl : l.length < 4294967281) (hn : l.dropWhile (fun c => !nameEnd c) ≠ []) :
    Calls Tryz.prog 120 #[.pointer (some ⟨g, 0, none⟩), .pointer (some ⟨b, i, none⟩)] w fun e w' => e = .returned (.bool true) ∧ TxAt w' g (l.dropWhile fun c => !nameEnd c) ∧ w'.heap[b]? = some (.cells (cs.setIfInBounds i (.string ⟨(l.takeWhile fun c => !nameEnd c).toArray⟩)) t (0, 0)) ∧ Tch (fun k => k = g ∨ k = b) w w' := by
  have hI := fun w1 => IndexAny_is ⟨l.toArray⟩ (by rw [Lib.size_mk]; exact hl) w1
  have hv : Lib.indexAny (⟨l.toArray⟩ : ByteArray).data.toList nameSet = ((l.takeWhile fun c => !nameEnd c).length : Int) := (indexAny_name l).2 hn
  rw [hv] at hI
  have c0 := h.cell
  have key : l = (l.takeWhile fun c => !nameEnd c) ++ l.dropWhile fun c => !nameEnd c := (List.takeWhile_append_dropWhile).symm
  clear hn hv
  generalize (l.takeWhile fun c => !nameEnd c) = x at *
  generalize (l.dropWhile fun c => !nameEnd c) = y at *
  subst key
  rw [List.length_append] at hl
  have hlt := h.lt
  have hblt := (Array.getElem?_eq_some_iff.1 hr).1
  have ex : (⟨(x ++ y).toArray⟩ : ByteArray).extract 0 x.length = ⟨x.toArray⟩ := by
    rw [Lib.extract_upto]
    simp
  have ey : (⟨(x ++ y).toArray⟩ : ByteArray).extract x.length (x.length + y.length) = ⟨y.toArray⟩ := by
    have := Lib.extract_from ⟨(x ++ y).toArray⟩ x.length
    rw [Lib.size_mk, List.length_append] at this
    rw [this]
    simp
  have hC := fun w2 => sClone_is ⟨x.toArray⟩ (by rw [Lib.size_mk]; omega) w2
  have cells : ∀ w1, Below w.heap.size w w1 → w1.cell? ⟨g, 0, none⟩ = some (.string ⟨(x ++ y).toArray⟩) ∧ w1.frozen? ⟨g, 0, none⟩ = false ∧ w1.cell? ⟨b, i, none⟩ = some (.string s0) ∧ w1.frozen? ⟨b, i, none⟩ = false := fun w1 b1 =>
    ⟨TxAt.cell ((b1.block g hlt).trans h), TxAt.frozen ((b1.block g hlt).trans h), held_cell ((b1.block b hblt).trans hr) hi, held_frozen ((b1.block b hblt).trans hr)⟩
  have fin : ∀ w1, Below w.heap.size w w1 → TxAt ((w1.setCell ⟨b, i, none⟩ (.string ⟨x.toArray⟩)).setCell ⟨g, 0, none⟩ (.string ⟨y.toArray⟩)) g y ∧ ((w1.setCell ⟨b, i, none⟩ (.string ⟨x.toArray⟩)).setCell ⟨g, 0, none⟩ (.string ⟨y.toArray⟩)).heap[b]? = some (.cells (cs.setIfInBounds i (.string ⟨x.toArray⟩)) t (0, 0)) ∧ Tch (fun k => k = g ∨ k = b) w ((w1.setCell ⟨b, i, none⟩ (.string ⟨x.toArray⟩)).setCell ⟨g, 0, none⟩ (.string ⟨y.toArray⟩)) := fun w1 b1 => by
    have r1 := (b1.block b hblt).trans hr
    have r2 := row_set (i := i) r1 (.string ⟨x.toArray⟩)
    have a1 : TxAt w1 g (x ++ y) := (b1.block g hlt).trans h
    have a2 : TxAt (w1.setCell ⟨b, i, none⟩ (.string ⟨x.toArray⟩)) g (x ++ y) := a1.touch (S := (· = b)) (Tch.set _ _ _ _ rfl) (by omega)
    exact ⟨a2.set y, (Tch.set (· = g) _ ⟨g, 0, none⟩ _ rfl).row r2 (by omega), (Tch.of_below b1).trans ((Tch.set _ _ _ _ (.inr rfl)).trans (Tch.set _ _ _ _ (.inl rfl)))⟩
  have hx0 : ¬ ((x.length : Int) < 0) := by omega
  go_enter Tryz.func120, Tryz.ntmps120
  go_wp2_with (first | (go_at_call 144; refine (hI _).mono ?_; rintro e w1 ⟨rfl, b1⟩; obtain ⟨d0, d1, d2, d3⟩ := cells w1 b1))
  go_region_with (first
    | (go_at_call 145; refine (hC _).mono ?_; rintro e w2 ⟨rfl, b2⟩; have b3 := b1.drew.trans (b2.mono b1.drew.size); obtain ⟨e0, e1, e2, e3⟩ := cells w2 b3))
  all_goals
    go_wp2_with fail
    go_ret
    have f1 := fin _ b3
    exact ⟨rfl, f1.1, f1.2.1, f1.2.2⟩
end Go.Proofs.YtlhodanpfpfodaaGreatDoor
