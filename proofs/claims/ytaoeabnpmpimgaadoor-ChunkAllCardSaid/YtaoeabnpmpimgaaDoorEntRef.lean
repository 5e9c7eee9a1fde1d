/-
  What the reference's Right, Bytes, Put and Size of an entry answer. Conditions: the entry can be read; sizes as each theorem names.
-/
import Derived.Test.YtaoeabnpmpimgaaDoorEntKnow
import Derived.Test.YtaoeabnpmpimgaaDoorRefRight
import Derived.Deep.RegionHeld3
namespace Go.Proofs.YtaoeabnpmpimgaaDoor
open Go.RowKit Go.Icz
set_option maxHeartbeats 2000000 in
set_option maxRecDepth 100000 in
theorem R3Right_is (x : Ent) (A : Option Addr) (c : Nat) (w : World) (hR : RdL w (.slice A x.labs.length c) x.labs) (hz : entZ x) :
    Calls Tryd.prog 28 #[entV x A c] w fun e w' => e = .returned (.bool (entR x)) ∧ Below w.heap.size w w' := by
  obtain ⟨hz1, hz2, hz3⟩ := hz
  have hRt := fun w1 (g : RdL w1 (.slice A x.labs.length c) x.labs) => RefRight_is _ x.labs w1 g (by omega) hz3
  obtain ⟨seq, time, labs, line⟩ := x
  unfold entV entR
  simp only at *
  have hR1 := fun o => hR.alloc o
  have hll : (⟨line.toArray⟩ : ByteArray).size = line.length := Lib.size_mk _
  by_cases h1 : 1 ≤ seq
  · by_cases h2 : seq < 1099511627776
    · by_cases h3 : 0 ≤ time
      · by_cases h4 : time < 1099511627776
        · have HV : Hid (((decide (1 ≤ seq ∧ seq < 1099511627776) && decide (0 ≤ time ∧ time < 1099511627776)) && decide (line.length ≤ 1024) && rightS labs) = (decide (line.length ≤ 1024) && rightS labs)) := hid (by simp [h1, h2, h3, h4])
          rw [HV.out]
          have hk : ∀ (a b : Value) o, b = b → ∀ w1, Below (w.alloc (.cells #[.int .i64 seq, .int .i64 time, .slice A labs.length c, .string ⟨line.toArray⟩] o)).heap.size (w.alloc (.cells #[.int .i64 seq, .int .i64 time, .slice A labs.length c, .string ⟨line.toArray⟩] o)) w1 → w1.cell? ⟨w.heap.size, 3, none⟩ = some (.string ⟨line.toArray⟩) := fun _ _ _ _ w1 hb => held_cell (box4 hb) rfl
          cases hr : rightS labs with
          | true =>
            rw [hr] at hRt
            by_cases h5 : line.length ≤ 1024
            · have h5' : (line.length : Int) ≤ 1024 := by omega
              have HF : Hid ((decide (line.length ≤ 1024) && true) = true) := hid (by simp [h5])
              rw [HF.out]
              clear HV hz1 hz2 hz3 h5 hR hk hr
              go_enter Tryd.func28, Tryd.ntmps28
              go_wp2_with (go_at_call 35; refine (hRt _ (hR1 _)).mono ?_; rintro e w1 ⟨rfl, b1⟩; have q3 := held_cell (i := 3) (box4 b1) rfl; clear hRt)
              go_ret
              exact ⟨rfl, below_push b1⟩
            · have h5' : ¬ (line.length : Int) ≤ 1024 := by omega
              have h5d : decide ((line.length : Int) ≤ 1024) = false := decide_eq_false h5'
              have HF : Hid ((decide (line.length ≤ 1024) && true) = false) := hid (by simp [h5])
              rw [HF.out]
              clear HV hz1 hz2 hz3 h5 hR hk hr
              go_enter Tryd.func28, Tryd.ntmps28
              go_wp2_with (go_at_call 35; refine (hRt _ (hR1 _)).mono ?_; rintro e w1 ⟨rfl, b1⟩; have q3 := held_cell (i := 3) (box4 b1) rfl; clear hRt)
              go_ret
              exact ⟨rfl, below_push b1⟩
          | false =>
            rw [hr] at hRt
            have HF : Hid ((decide (line.length ≤ 1024) && false) = false) := hid (by simp)
            rw [HF.out]
            clear HV hz1 hz2 hz3 hR hk hr
            go_enter Tryd.func28, Tryd.ntmps28
            go_wp2_with (go_at_call 35; refine (hRt _ (hR1 _)).mono ?_; rintro e w1 ⟨rfl, b1⟩; clear hRt)
            go_ret
            exact ⟨rfl, below_push b1⟩
        · have HV : Hid (((decide (1 ≤ seq ∧ seq < 1099511627776) && decide (0 ≤ time ∧ time < 1099511627776)) && decide (line.length ≤ 1024) && rightS labs) = false) := hid (by simp [h4])
          rw [HV.out]
          clear HV hz1 hz2 hz3 hR hR1 hRt hll
          go_enter Tryd.func28, Tryd.ntmps28
          go_wp2
          all_goals
            go_ret
            exact ⟨rfl, (Below.refl _ _).alloc (Nat.le_refl _) _⟩
      · have HV : Hid (((decide (1 ≤ seq ∧ seq < 1099511627776) && decide (0 ≤ time ∧ time < 1099511627776)) && decide (line.length ≤ 1024) && rightS labs) = false) := hid (by simp [h3])
        rw [HV.out]
        clear HV hz1 hz2 hz3 hR hR1 hRt hll
        go_enter Tryd.func28, Tryd.ntmps28
        go_wp2
        all_goals
          go_ret
          exact ⟨rfl, (Below.refl _ _).alloc (Nat.le_refl _) _⟩
    · have HV : Hid (((decide (1 ≤ seq ∧ seq < 1099511627776) && decide (0 ≤ time ∧ time < 1099511627776)) && decide (line.length ≤ 1024) && rightS labs) = false) := hid (by simp [h2])
      rw [HV.out]
      clear HV hz1 hz2 hz3 hR hR1 hRt hll
      go_enter Tryd.func28, Tryd.ntmps28
      go_wp2
      all_goals
        go_ret
        exact ⟨rfl, (Below.refl _ _).alloc (Nat.le_refl _) _⟩
  · have HV : Hid (((decide (1 ≤ seq ∧ seq < 1099511627776) && decide (0 ≤ time ∧ time < 1099511627776)) && decide (line.length ≤ 1024) && rightS labs) = false) := hid (by simp [h1])
    rw [HV.out]
    clear HV hz1 hz2 hz3 hR hR1 hRt hll
    go_enter Tryd.func28, Tryd.ntmps28
    go_wp2
    all_goals
      go_ret
      exact ⟨rfl, (Below.refl _ _).alloc (Nat.le_refl _) _⟩
end Go.Proofs.YtaoeabnpmpimgaaDoor
