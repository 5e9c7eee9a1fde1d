/-
  Entries: how they lie in memory, which may be, their bytes; record.Right. Conditions: those that each theorem names.
-/
import Derived.Test.YtaoeabnpmpimgaaDoorRBytes
import Derived.Test.YtaoeabnpmpimgaaDoorSame
namespace Go.Icz
open Go.RowKit
structure Ent where
  seq : Int
  time : Int
  labs : List Lab
  line : B8
/-- The entry's value; its labels are the slice A. -/
def entV (x : Ent) (A : Option Addr) (c : Nat) : Value := .agg #[.int .i64 x.seq, .int .i64 x.time, .slice A x.labs.length c, .string ⟨x.line.toArray⟩]
def entR (x : Ent) : Bool := (decide (1 ≤ x.seq ∧ x.seq < 1099511627776) && decide (0 ≤ x.time ∧ x.time < 1099511627776)) && decide (x.line.length ≤ 1024) && rightS x.labs
/-- The sizes that Go's memory allows. -/
def entZ (x : Ent) : Prop := x.labs.length * 32 ≤ 140737488351232 ∧ x.line.length ≤ 9223372036854775807 ∧ ∀ y ∈ x.labs, y.1.length ≤ 9223372036854775807 ∧ y.2.length ≤ 9223372036854775807
end Go.Icz
namespace Go.Proofs.YtaoeabnpmpimgaaDoor
open Go.RowKit Go.Icz
set_option maxHeartbeats 2000000 in
set_option maxRecDepth 100000 in
theorem ERight_is (x : Ent) (A : Option Addr) (c : Nat) (w : World) (hR : RdL w (.slice A x.labs.length c) x.labs) (hT : Tabs w) (hz : entZ x) :
    Calls Tryd.prog 17 #[entV x A c] w fun e w' => e = .returned (.bool (entR x)) ∧ Below w.heap.size w w' := by
  obtain ⟨hz1, hz2, hz3⟩ := hz
  have hRt := fun w1 (g : RdL w1 (.slice A x.labs.length c) x.labs) (hT1 : Tabs w1) => Right_is _ x.labs w1 g hT1 hz3
  obtain ⟨seq, time, labs, line⟩ := x
  unfold entV entR
  simp only at *
  have hR1 := fun o => hR.alloc o
  have hT1 := fun o => hT.below ((Below.refl w.heap.size w).alloc (Nat.le_refl _) o)
  have hll : (⟨line.toArray⟩ : ByteArray).size = line.length := Lib.size_mk _
  by_cases h1 : 1 ≤ seq
  · by_cases h2 : seq < 1099511627776
    · by_cases h3 : 0 ≤ time
      · by_cases h4 : time < 1099511627776
        · by_cases h5 : line.length ≤ 1024
          · have HV : Hid (((decide (1 ≤ seq ∧ seq < 1099511627776) && decide (0 ≤ time ∧ time < 1099511627776)) && decide (line.length ≤ 1024) && rightS labs) = rightS labs) := hid (by simp [h1, h2, h3, h4, h5])
            rw [HV.out]
            generalize rightS labs = r at *
            have h5' : (line.length : Int) ≤ 1024 := by omega
            clear HV hz1 hz2 hz3 h5 hR hT
            go_enter Tryd.func17, Tryd.ntmps17
            go_wp2_with (go_at_call 40; refine (hRt _ (hR1 _) (hT1 _)).mono ?_; rintro e w1 ⟨rfl, b1⟩; clear hRt)
            go_ret
            exact ⟨rfl, below_push b1⟩
          · have HV : Hid (((decide (1 ≤ seq ∧ seq < 1099511627776) && decide (0 ≤ time ∧ time < 1099511627776)) && decide (line.length ≤ 1024) && rightS labs) = false) := hid (by simp [h5])
            rw [HV.out]
            have h5' : ¬ (line.length : Int) ≤ 1024 := by omega
            clear HV hz1 hz2 hz3 h5 hR hT hR1 hT1 hRt
            go_enter Tryd.func17, Tryd.ntmps17
            go_wp2
            go_ret
            exact ⟨rfl, (Below.refl _ _).alloc (Nat.le_refl _) _⟩
        · have HV : Hid (((decide (1 ≤ seq ∧ seq < 1099511627776) && decide (0 ≤ time ∧ time < 1099511627776)) && decide (line.length ≤ 1024) && rightS labs) = false) := hid (by simp [h4])
          rw [HV.out]
          clear HV hz1 hz2 hz3 hR hT hR1 hT1 hRt hll
          go_enter Tryd.func17, Tryd.ntmps17
          go_wp2
          all_goals
            go_ret
            exact ⟨rfl, (Below.refl _ _).alloc (Nat.le_refl _) _⟩
      · have HV : Hid (((decide (1 ≤ seq ∧ seq < 1099511627776) && decide (0 ≤ time ∧ time < 1099511627776)) && decide (line.length ≤ 1024) && rightS labs) = false) := hid (by simp [h3])
        rw [HV.out]
        clear HV hz1 hz2 hz3 hR hT hR1 hT1 hRt hll
        go_enter Tryd.func17, Tryd.ntmps17
        go_wp2
        all_goals
          go_ret
          exact ⟨rfl, (Below.refl _ _).alloc (Nat.le_refl _) _⟩
    · have HV : Hid (((decide (1 ≤ seq ∧ seq < 1099511627776) && decide (0 ≤ time ∧ time < 1099511627776)) && decide (line.length ≤ 1024) && rightS labs) = false) := hid (by simp [h2])
      rw [HV.out]
      clear HV hz1 hz2 hz3 hR hT hR1 hT1 hRt hll
      go_enter Tryd.func17, Tryd.ntmps17
      go_wp2
      all_goals
        go_ret
        exact ⟨rfl, (Below.refl _ _).alloc (Nat.le_refl _) _⟩
  · have HV : Hid (((decide (1 ≤ seq ∧ seq < 1099511627776) && decide (0 ≤ time ∧ time < 1099511627776)) && decide (line.length ≤ 1024) && rightS labs) = false) := hid (by simp [h1])
    rw [HV.out]
    clear HV hz1 hz2 hz3 hR hT hR1 hT1 hRt hll
    go_enter Tryd.func17, Tryd.ntmps17
    go_wp2
    all_goals
      go_ret
      exact ⟨rfl, (Below.refl _ _).alloc (Nat.le_refl _) _⟩
end Go.Proofs.YtaoeabnpmpimgaaDoor
