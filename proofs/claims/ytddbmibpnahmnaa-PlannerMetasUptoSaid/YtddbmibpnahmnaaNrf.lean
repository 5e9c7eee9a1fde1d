/-
  Metas that may be: the reference's question. No condition.
-/
import Derived.Test.YtddbmibpnahmnaaNrt
namespace Go.Proofs.Ytddbmibpnahmnaa
open Go.RowKit Go.Icz
def inB (n least : Int) : Bool := decide (least ≤ n) && decide (n < 1099511627776)
theorem right_parts (x : MV) : rightM x = (inB x.id 1 && (inB x.least 0 && (inB x.most x.least && (inB x.first 1 && (inB x.last x.first && (inB x.rows 1 && (inB x.bytes 0 && (decide (x.level ≥ 0) && decide (x.level ≤ 20))))))))) := by
  rw [Bool.eq_iff_iff]
  unfold rightM inB
  simp only [Bool.and_eq_true, decide_eq_true_eq]
  constructor
  · rintro h
    omega
  · rintro h
    omega
theorem in_is (n least : Int) (w : World) : Calls Try.prog 29 #[.int .i64 n, .int .i64 least] w fun e w' => e = .returned (.bool (inB n least)) ∧ w' = w := by
  unfold inB
  by_cases h1 : least ≤ n
  · by_cases h2 : n < 1099511627776
    · go_enter Try.func29, Try.ntmps29
      go_wp2
      go_ret
      exact ⟨by simp [h1, h2], rfl⟩
    · go_enter Try.func29, Try.ntmps29
      go_wp2
      go_ret
      exact ⟨by simp; omega, rfl⟩
  · go_enter Try.func29, Try.ntmps29
    go_wp2
    go_ret
    exact ⟨by simp; omega, rfl⟩
set_option maxRecDepth 100000 in
set_option maxHeartbeats 4000000 in
theorem RRight_is (x : MV) (w : World) : Calls Try.prog 16 #[metaV x] w fun e w' => e = .returned (.bool (rightM x)) ∧ Below w.heap.size w w' := by
  rw [right_parts]
  unfold metaV
  have fin : ∀ o, Below w.heap.size w (w.alloc o) := fun o => (Below.refl _ w).alloc (Nat.le_refl _) _
  cases e0 : inB x.id 1 with
  | false =>
    go_enter Try.func16, Try.ntmps16
    go_wp2_with (go_at_call 29; refine (in_is _ _ _).mono ?_; rintro e w' ⟨rfl, rfl⟩)
    go_ret
    exact ⟨rfl, fin _⟩
  | true =>
    cases e1 : inB x.least 0 with
    | false =>
      go_enter Try.func16, Try.ntmps16
      go_wp2_with (go_at_call 29; refine (in_is _ _ _).mono ?_; rintro e w' ⟨rfl, rfl⟩)
      go_ret
      exact ⟨rfl, fin _⟩
    | true =>
      cases e2 : inB x.most x.least with
      | false =>
        go_enter Try.func16, Try.ntmps16
        go_wp2_with (go_at_call 29; refine (in_is _ _ _).mono ?_; rintro e w' ⟨rfl, rfl⟩)
        go_ret
        exact ⟨rfl, fin _⟩
      | true =>
        cases e3 : inB x.first 1 with
        | false =>
          go_enter Try.func16, Try.ntmps16
          go_wp2_with (go_at_call 29; refine (in_is _ _ _).mono ?_; rintro e w' ⟨rfl, rfl⟩)
          go_ret
          exact ⟨rfl, fin _⟩
        | true =>
          cases e4 : inB x.last x.first with
          | false =>
            go_enter Try.func16, Try.ntmps16
            go_wp2_with (go_at_call 29; refine (in_is _ _ _).mono ?_; rintro e w' ⟨rfl, rfl⟩)
            go_ret
            exact ⟨rfl, fin _⟩
          | true =>
            cases e5 : inB x.rows 1 with
            | false =>
              go_enter Try.func16, Try.ntmps16
              go_wp2_with (go_at_call 29; refine (in_is _ _ _).mono ?_; rintro e w' ⟨rfl, rfl⟩)
              go_ret
              exact ⟨rfl, fin _⟩
            | true =>
              cases e6 : inB x.bytes 0 with
              | false =>
                go_enter Try.func16, Try.ntmps16
                go_wp2_with (go_at_call 29; refine (in_is _ _ _).mono ?_; rintro e w' ⟨rfl, rfl⟩)
                go_ret
                exact ⟨rfl, fin _⟩
              | true =>
                by_cases g1 : x.level ≥ 0
                · by_cases g2 : x.level ≤ 20
                  · go_enter Try.func16, Try.ntmps16
                    go_wp2_with (go_at_call 29; refine (in_is _ _ _).mono ?_; rintro e w' ⟨rfl, rfl⟩)
                    go_ret
                    exact ⟨by simp; omega, fin _⟩
                  · go_enter Try.func16, Try.ntmps16
                    go_wp2_with (go_at_call 29; refine (in_is _ _ _).mono ?_; rintro e w' ⟨rfl, rfl⟩)
                    go_ret
                    exact ⟨by simp; omega, fin _⟩
                · go_enter Try.func16, Try.ntmps16
                  go_wp2_with (go_at_call 29; refine (in_is _ _ _).mono ?_; rintro e w' ⟨rfl, rfl⟩)
                  go_ret
                  exact ⟨by simp; omega, fin _⟩
end Go.Proofs.Ytddbmibpnahmnaa
