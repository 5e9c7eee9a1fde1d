/-
  PlannerEnds where the list is not fine, or longer than 60: the walk. Conditions: the list is no longer than 2^40; a number is one that an int holds.
-/
import Derived.Test.YtoomhfjmcdbgkaaNkn
import Derived.Test.YtoomhfjmcdbgkaaNe1
namespace Go.Proofs.Ytoomhfjmcdbgkaa
open Go.RowKit Go.Icz
set_option maxRecDepth 100000 in
set_option maxHeartbeats 8000000 in
theorem ends_bad (v : Value) (l : List MV) (f mb keep now : Int) (W : World) (hR : KRm.Rd W v l) (hlen : l.length ≤ 1099511627776) (hwf : ∀ x ∈ l, wfI x.id) (hf : fineM l = false) :
    Calls Try.prog 7 #[v, rulesV f mb keep, .int .i64 now] W fun e w' => e = .returned (.bool true) ∧ Below W.heap.size W w' := by
  have b0 : Below W.heap.size W (W.alloc (.cells #[.int .i64 f, .int .i64 mb, .int .i64 keep] 55)) := (Below.refl _ W).alloc (Nat.le_refl _) _
  have r0 := box_row W #[.int .i64 f, .int .i64 mb, .int .i64 keep] 55
  have cList := List_is v l _ (hR.below b0) hlen
  have cF := fun u w1 (h : KMet.Rd w1 u l) => Fine_is u l w1 h hlen hwf
  rw [hf] at cF
  unfold rulesV
  obtain ⟨A, c, rfl, _⟩ := hR.form
  clear hR hwf hf
  go_enter Try.func7, Try.ntmps7
  go_wp2_with (first
    | (go_at_call 10; go_loud (refine cList.mono ?_; rintro e wx ⟨ux, rfl, ox, bx⟩; have rx := ox.rd; obtain ⟨Ax, cx, rfl, _⟩ := rx.form; have hb := b0.trans (bx.mono b0.size); clear cList ox r0))
    | (go_at_call 13; go_loud (refine (cF _ _ rx).mono ?_; rintro e Wb ⟨rfl, bf⟩; have hbb := hb.trans (bf.mono hb.size); clear cF rx))
    | (go_at_call 22; go_loud (refine (knows_is _).mono ?_; rintro e w9 ⟨rfl, b9⟩; have hb9 := hbb.trans (b9.mono hbb.size))))
  go_ret
  exact ⟨rfl, hb9⟩
set_option maxRecDepth 100000 in
set_option maxHeartbeats 8000000 in
theorem ends_long (v : Value) (l : List MV) (f mb keep now : Int) (W : World) (hR : KRm.Rd W v l) (hlen : l.length ≤ 1099511627776) (hwf : ∀ x ∈ l, wfI x.id) (hf : fineM l = true) (h60 : 60 < l.length) :
    Calls Try.prog 7 #[v, rulesV f mb keep, .int .i64 now] W fun e w' => e = .returned (.bool true) ∧ Below W.heap.size W w' := by
  have b0 : Below W.heap.size W (W.alloc (.cells #[.int .i64 f, .int .i64 mb, .int .i64 keep] 55)) := (Below.refl _ W).alloc (Nat.le_refl _) _
  have r0 := box_row W #[.int .i64 f, .int .i64 mb, .int .i64 keep] 55
  have cList := List_is v l _ (hR.below b0) hlen
  have cF := fun u w1 (h : KMet.Rd w1 u l) => Fine_is u l w1 h hlen hwf
  rw [hf] at cF
  unfold rulesV
  have h6 : (60 : Int) < (l.length : Int) := by omega
  obtain ⟨A, c, rfl, _⟩ := hR.form
  clear hR hwf hf
  go_enter Try.func7, Try.ntmps7
  go_wp2_with (first
    | (go_at_call 10; go_loud (refine cList.mono ?_; rintro e wx ⟨ux, rfl, ox, bx⟩; have rx := ox.rd; obtain ⟨Ax, cx, rfl, _⟩ := rx.form; have hb := b0.trans (bx.mono b0.size); clear cList ox r0))
    | (go_at_call 13; go_loud (refine (cF _ _ rx).mono ?_; rintro e Wb ⟨rfl, bf⟩; have hbb := hb.trans (bf.mono hb.size); clear cF rx))
    | (go_at_call 22; go_loud (refine (knows_is _).mono ?_; rintro e w9 ⟨rfl, b9⟩; have hb9 := hbb.trans (b9.mono hbb.size))))
  go_ret
  exact ⟨rfl, hb9⟩
end Go.Proofs.Ytoomhfjmcdbgkaa
