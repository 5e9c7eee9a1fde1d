/-
  What codec.readNumber and bytes.Clone answer: what rdn says of the bytes; a copy. Conditions: the slice reads as bytes.
-/
import Derived.Test.YtogahjeeglnogaaDoorRdn
import Derived.Test.YtogahjeeglnogaaDoorWrite
import Derived.Laws.BitsLemmas
namespace Go.Proofs.YtogahjeeglnogaaDoor
open Go.RowKit Go.Icz

theorem or_join {k a d : Nat} (ha : a < 128 ^ k) (hd : d < 128) (hk : k ≤ 7) : bits .or .i64 (a : Int) ((d * 128 ^ k : Nat) : Int) = ((a + d * 128 ^ k : Nat) : Int) := by
  have hp : 128 ^ k ≤ 128 ^ 7 := Nat.pow_le_pow_right (by omega) hk
  have hm : d * 128 ^ k ≤ 127 * 128 ^ 7 := Nat.mul_le_mul (by omega) hp
  have e : 128 ^ k = 2 ^ (7 * k) := by rw [Nat.pow_mul]
  rw [(bits_nat .i64 62 (by decide) (fun n h0 h1 => by rw [IntKind.wrap_i64]; omega) a (d * 128 ^ k) (by omega) (by omega)).2]
  rw [e] at ha ⊢
  rw [Nat.or_comm, Nat.mul_comm d, ← Nat.two_pow_add_eq_or_of_lt ha d, Nat.add_comm]
theorem andNot128 {x : Nat} (hx : x < 256) : bits .andNot .u8 (x : Int) 128 = ((x % 128 : Nat) : Int) := by
  have h := u8_andNot_nat x 128 hx (by omega)
  rw [show x &&& (255 - 128) = x % 128 from Nat.and_two_pow_sub_one_eq_mod x 7] at h
  exact h
/-- One byte's step, in the walk's spelling. -/
theorem rd_facts {x k a : Nat} (hx : x < 256) (hk : k ≤ 7) (ha : a < 128 ^ k) :
    ∃ d y a2 : Nat, bits .andNot .u8 (x : Int) 128 = (d : Int) ∧ d < 128 ∧ wrap64 ((d : Int) * 2 ^ (7 * k)) = (y : Int) ∧ bits .or .i64 (a : Int) (y : Int) = (a2 : Int) ∧ a2 = a + x % 128 * 128 ^ k ∧ a2 < 128 ^ (k + 1) := by
  have hp : 128 ^ k ≤ 128 ^ 7 := Nat.pow_le_pow_right (by omega) hk
  have hm : x % 128 * 128 ^ k ≤ 127 * 128 ^ k := Nat.mul_le_mul_right _ (by omega)
  refine ⟨x % 128, x % 128 * 128 ^ k, a + x % 128 * 128 ^ k, andNot128 hx, by omega, ?_, or_join ha (by omega) hk, rfl, by rw [Nat.pow_succ]; omega⟩
  have e : ((x % 128 : Nat) : Int) * 2 ^ (7 * k) = ((x % 128 * 128 ^ k : Nat) : Int) := by
    rw [Nat.pow_mul' 2 7 k |> fun _ => (show (128 : Nat) ^ k = 2 ^ (7 * k) by rw [Nat.pow_mul])]
    simp
  rw [e]
  exact IntWalk.wrap64_in _ ⟨by omega, by omega⟩

end Go.Proofs.YtogahjeeglnogaaDoor
