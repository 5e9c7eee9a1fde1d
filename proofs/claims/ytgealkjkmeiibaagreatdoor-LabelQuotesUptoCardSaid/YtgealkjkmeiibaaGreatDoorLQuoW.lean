/-
  The walk of LabelQuotes: whatever the text, the law returns true. Conditions: sizes as the theorem names; the tables of package utf8 and the errors of package strconv are in place.
-/
import Derived.Test.YtgealkjkmeiibaaGreatDoorKnow
import Derived.Test.YtgealkjkmeiibaaGreatDoorMeant
import Derived.Test.YtgealkjkmeiibaaGreatDoorRUnq
namespace Go.Proofs.YtgealkjkmeiibaaGreatDoor
open Go.RowKit Go.Icz
set_option maxHeartbeats 8000000 in
set_option maxRecDepth 100000 in
theorem LabelQuotes_walk (s : ByteArray) (W : World) (hs : s.size ≤ 1048576) (hT : Tabs W) :
    Calls Tryz.prog 3 #[.string s] W fun e w' => e = .returned (.bool true) ∧ Below W.heap.size W w' := by
  have AQ := fun w (hb : Below W.heap.size W w) => Quote_is s w (by omega) (hT.below hb)
  have AR := fun w => RQuote_is s w (by omega)
  have HK := fun w (hb : Below W.heap.size W w) => knows_is w (hT.below hb)
  have AU := Unquote_is s W (by omega) hT (fun t w1 _ ht hTw => meant_is t (by omega) w1 hTw)
  have AV := fun w => RUnquote_is s w (by omega)
  rw [unquote_eq] at AU
  unfold Unq at AU AV
  generalize quoteS s.data.toList = q at *
  cases hU : runquoteS s.data.toList with
  | none =>
    rw [hU] at AU AV
    clear hU
    go_enter Tryz.func3, Tryz.ntmps3
    go_wp2_with (first
      | (go_at_call 14; refine AU.mono ?_; rintro e w1 ⟨rfl, b1⟩; have cB := b1; clear AU)
      | (go_at_call 15; refine (AV _).mono ?_; rintro e w2 ⟨rfl, b2⟩; replace cB := cB.trans (b2.mono cB.size); clear AV)
      | (go_at_call 16; refine (AQ _ cB).mono ?_; rintro e w3 ⟨rfl, b3⟩; replace cB := cB.trans (b3.mono cB.size); clear AQ)
      | (go_at_call 17; refine (AR _).mono ?_; rintro e w4 ⟨rfl, b4⟩; replace cB := cB.trans (b4.mono cB.size); clear AR)
      | (go_at_call 18; refine (HK _ cB).mono ?_; rintro e wk ⟨rfl, bk⟩; replace cB := cB.trans (bk.mono cB.size)))
    go_ret
    exact ⟨rfl, cB⟩
  | some y =>
    obtain ⟨a, n⟩ := y
    rw [hU] at AU AV
    clear hU
    go_enter Tryz.func3, Tryz.ntmps3
    go_wp2_with (first
      | (go_at_call 14; refine AU.mono ?_; rintro e w1 ⟨rfl, b1⟩; have cB := b1; clear AU)
      | (go_at_call 15; refine (AV _).mono ?_; rintro e w2 ⟨rfl, b2⟩; replace cB := cB.trans (b2.mono cB.size); clear AV)
      | (go_at_call 16; refine (AQ _ cB).mono ?_; rintro e w3 ⟨rfl, b3⟩; replace cB := cB.trans (b3.mono cB.size); clear AQ)
      | (go_at_call 17; refine (AR _).mono ?_; rintro e w4 ⟨rfl, b4⟩; replace cB := cB.trans (b4.mono cB.size); clear AR)
      | (go_at_call 18; refine (HK _ cB).mono ?_; rintro e wk ⟨rfl, bk⟩; replace cB := cB.trans (bk.mono cB.size)))
    go_ret
    exact ⟨rfl, cB⟩
end Go.Proofs.YtgealkjkmeiibaaGreatDoor
