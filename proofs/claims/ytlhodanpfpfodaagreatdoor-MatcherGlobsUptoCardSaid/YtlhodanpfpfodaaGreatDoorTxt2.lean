/-
  The text that matcher's Parse reads: a quoted text, a number, a sign. Conditions: those that each theorem names.
-/
import Derived.Test.YtlhodanpfpfodaaGreatDoorTxt
import Derived.Test.YtlhodanpfpfodaaGreatDoorMeant
import Derived.Test.YtlhodanpfpfodaaGreatDoorRqLen
namespace Go.Proofs.YtlhodanpfpfodaaGreatDoor
open Go.RowKit Go.Icz
/-- What quoted leaves: the text that it found, the rest, and whether it is one. -/
def quotedOut (l : B8) : B8 × B8 × Bool := match unquoteS l with | some (v, n) => (v, l.drop n, true) | none => ([], l, false)
set_option maxHeartbeats 2000000 in
set_option maxRecDepth 100000 in
theorem Tquoted_is (g b i : Nat) (l : B8) (cs : Array Value) (t : TypeId) (s0 : ByteArray) (w : World) (h : TxAt w g l) (hr : w.heap[b]? = some (.cells cs t (0, 0))) (hi : cs[i]? = some (.string s0)) (hne : b ≠ g) (hl : l.length ≤ 1099511627776) (hT : Tabs w) :
    Calls Tryz.prog 94 #[.pointer (some ⟨g, 0, none⟩), .pointer (some ⟨b, i, none⟩)] w fun e w' => e = .returned (.bool (quotedOut l).2.2) ∧ TxAt w' g (quotedOut l).2.1 ∧ w'.heap[b]? = some (.cells (cs.setIfInBounds i (.string ⟨(quotedOut l).1.toArray⟩)) t (0, 0)) ∧ Tch (fun k => k = g ∨ k = b) w w' := by
  have hsz : (⟨l.toArray⟩ : ByteArray).size ≤ 1099511627776 := by rw [Lib.size_mk]; exact hl
  have hU := Unquote_is ⟨l.toArray⟩ w (by omega) hT (fun t w1 _ ht hTw => meant_is t (Nat.le_trans ht (by omega)) w1 hTw)
  clear hsz
  simp only [] at hU
  have hlt := h.lt
  have hblt := (Array.getElem?_eq_some_iff.1 hr).1
  unfold quotedOut Unq at *
  have fin : ∀ (v m : B8) w1, Below w.heap.size w w1 → TxAt ((w1.setCell ⟨b, i, none⟩ (.string ⟨v.toArray⟩)).setCell ⟨g, 0, none⟩ (.string ⟨m.toArray⟩)).drew g m ∧ ((w1.setCell ⟨b, i, none⟩ (.string ⟨v.toArray⟩)).setCell ⟨g, 0, none⟩ (.string ⟨m.toArray⟩)).drew.heap[b]? = some (.cells (cs.setIfInBounds i (.string ⟨v.toArray⟩)) t (0, 0)) ∧ Tch (fun k => k = g ∨ k = b) w ((w1.setCell ⟨b, i, none⟩ (.string ⟨v.toArray⟩)).setCell ⟨g, 0, none⟩ (.string ⟨m.toArray⟩)).drew := fun v m w1 b1 => by
    have r1 := (b1.block b hblt).trans hr
    have r2 := row_set (i := i) r1 (.string ⟨v.toArray⟩)
    have a1 : TxAt w1 g l := (b1.block g hlt).trans h
    have a2 : TxAt (w1.setCell ⟨b, i, none⟩ (.string ⟨v.toArray⟩)) g l := a1.touch (S := (· = b)) (Tch.set _ _ _ _ rfl) (by omega)
    exact ⟨a2.set m, (Tch.set (· = g) _ ⟨g, 0, none⟩ _ rfl).row r2 (by omega), (Tch.of_below b1).trans ((Tch.set _ _ _ _ (.inr rfl)).trans ((Tch.set _ _ _ _ (.inl rfl)).trans (Tch.drew _ _)))⟩
  have cells : ∀ w1, Below w.heap.size w w1 → w1.cell? ⟨g, 0, none⟩ = some (.string ⟨l.toArray⟩) ∧ w1.frozen? ⟨g, 0, none⟩ = false ∧ w1.cell? ⟨b, i, none⟩ = some (.string s0) ∧ w1.frozen? ⟨b, i, none⟩ = false := fun w1 b1 =>
    ⟨TxAt.cell ((b1.block g hlt).trans h), TxAt.frozen ((b1.block g hlt).trans h), held_cell ((b1.block b hblt).trans hr) hi, held_frozen ((b1.block b hblt).trans hr)⟩
  have c0 := h.cell
  have hex : ∀ n, (⟨l.toArray⟩ : ByteArray).extract n l.length = ⟨(l.drop n).toArray⟩ := fun n => by
    have := Lib.extract_from ⟨l.toArray⟩ n
    rw [Lib.size_mk] at this
    exact this
  cases hu : unquoteS l with
  | none =>
    rw [hu] at hU
    have he := hex 0
    rw [List.drop_zero] at he
    simp only []
    clear hu hex hT hl
    go_enter Tryz.func94, Tryz.ntmps94
    go_wp2_with (go_at_call 75; refine hU.mono ?_; rintro e w1 ⟨rfl, b1⟩; obtain ⟨d0, d1, d2, d3⟩ := cells w1 b1; clear hU)
    go_region
    go_wp2_with fail
    go_ret
    have f1 := fin [] l w1 b1
    exact ⟨rfl, f1.1, f1.2.1, f1.2.2⟩
  | some y =>
    obtain ⟨v, n⟩ := y
    have hn := hu
    rw [unquote_eq] at hn
    have hn := (runquote_len hn).2
    rw [hu] at hU
    have he := hex n
    simp only []
    clear hu hex hT hl
    go_enter Tryz.func94, Tryz.ntmps94
    go_wp2_with (go_at_call 75; refine hU.mono ?_; rintro e w1 ⟨rfl, b1⟩; obtain ⟨d0, d1, d2, d3⟩ := cells w1 b1; clear hU)
    go_region
    go_wp2_with fail
    go_ret
    have f1 := fin v (l.drop n) w1 b1
    exact ⟨rfl, f1.1, f1.2.1, f1.2.2⟩
end Go.Proofs.YtlhodanpfpfodaaGreatDoor
