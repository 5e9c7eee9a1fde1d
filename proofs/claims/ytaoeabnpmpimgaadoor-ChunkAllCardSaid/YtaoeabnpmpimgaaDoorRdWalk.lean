/-
  Reading a number of seven bits a byte: what the loop finds in any bytes, and that it finds what was written. Conditions: those that each theorem names.
  What codec.readNumber and bytes.Clone answer: what rdn says of the bytes; a copy. Conditions: the slice reads as bytes.
-/
import Derived.Test.YtaoeabnpmpimgaaDoorBase
import Derived.Test.YtaoeabnpmpimgaaDoorWrite
import Derived.Laws.BitsLemmas
section
namespace Go.Icz

/-- What the loop answers: from place i on, what was gathered, the bytes that are left: number, size, error. -/
def rdGo : List Nat → Nat → Nat → Nat × Nat × Nat
  | [], _, _ => (0, 0, 20)
  | c :: l, i, n => if 128 ≤ c ∧ i < 7 then rdGo l (i + 1) (n + c % 128 * 128 ^ i) else if 128 ≤ c ∨ (c = 0 ∧ 0 < i) then (0, 0, 21) else (n + c % 128 * 128 ^ i, i + 1, 0)
def rdn (l : List Nat) : Nat × Nat × Nat := rdGo l 0 0

theorem rdGo_more {c : Nat} {l : List Nat} {i n : Nat} (h : 128 ≤ c) (hi : i < 7) : rdGo (c :: l) i n = rdGo l (i + 1) (n + c % 128 * 128 ^ i) := by rw [rdGo, if_pos ⟨h, hi⟩]
theorem rdGo_bad {c : Nat} {l : List Nat} {i n : Nat} (h : ¬ (128 ≤ c ∧ i < 7)) (h2 : 128 ≤ c ∨ (c = 0 ∧ 0 < i)) : rdGo (c :: l) i n = (0, 0, 21) := by rw [rdGo, if_neg h, if_pos h2]
theorem rdGo_end {c : Nat} {l : List Nat} {i n : Nat} (h : c < 128) (h2 : c ≠ 0 ∨ i = 0) : rdGo (c :: l) i n = (n + c * 128 ^ i, i + 1, 0) := by
  rw [rdGo, if_neg (by omega), if_neg (by omega), Nat.mod_eq_of_lt h]

/-- What was written is found, whatever stands behind it. -/
theorem rdGo_num : ∀ (m i a : Nat) (rest : List Nat), m < 128 ^ (8 - i) → i < 8 → (0 < m ∨ i = 0) → rdGo (num m ++ rest) i a = (a + m * 128 ^ i, i + (num m).length, 0)
  | m, i, a, rest, hm, hi, h0 => by
    by_cases h1 : m < 128
    · rw [num_lo h1, List.singleton_append, rdGo_end h1 (by omega)]
      rfl
    · have h7 : i < 7 := by
        rcases Nat.lt_or_ge i 7 with h | h
        · exact h
        · have : 8 - i = 1 := by omega
          rw [this] at hm
          omega
      have hp : 128 ^ (8 - i) = 128 ^ (8 - (i + 1)) * 128 := by
        rw [← Nat.pow_succ]
        congr 1
        omega
      rw [num_hi h1, List.cons_append, rdGo_more (by omega) h7]
      rw [rdGo_num (m / 128) (i + 1) _ rest (by rw [Nat.div_lt_iff_lt_mul (by omega), ← hp]; exact hm) (by omega) (.inl (by omega))]
      have e1 : (m % 128 + 128) % 128 = m % 128 := by omega
      rw [e1, Nat.pow_succ]
      simp only [List.length_cons, Prod.mk.injEq]
      refine ⟨?_, by omega, trivial⟩
      have e2 : m / 128 * (128 ^ i * 128) = m / 128 * 128 * 128 ^ i := by rw [Nat.mul_comm (128 ^ i), Nat.mul_assoc]
      rw [e2, Nat.add_assoc, ← Nat.add_mul]
      congr 2
      omega
  termination_by m => m
  decreasing_by omega
theorem rdn_num {m : Nat} (rest : List Nat) (h : m < 72057594037927936) : rdn (num m ++ rest) = (m, (num m).length, 0) := by
  unfold rdn
  rw [rdGo_num m 0 0 rest (by simpa using h) (by omega) (.inr rfl)]
  simp

/-- Cut off within it there is none. -/
theorem rdGo_cut : ∀ (m i a k : Nat), m < 128 ^ (8 - i) → i < 8 → k < (num m).length → rdGo ((num m).take k) i a = (0, 0, 20)
  | m, i, a, 0, _, _, _ => by simp [rdGo]
  | m, i, a, k + 1, hm, hi, hk => by
    have h1 : ¬ m < 128 := fun h => by rw [num_lo h] at hk; simp at hk
    have h7 : i < 7 := by
      rcases Nat.lt_or_ge i 7 with h | h
      · exact h
      · have : 8 - i = 1 := by omega
        rw [this] at hm
        omega
    have hp : 128 ^ (8 - i) = 128 ^ (8 - (i + 1)) * 128 := by
      rw [← Nat.pow_succ]
      congr 1
      omega
    rw [num_hi h1] at hk ⊢
    rw [List.take_succ_cons, rdGo_more (by omega) h7]
    exact rdGo_cut (m / 128) (i + 1) _ k (by rw [Nat.div_lt_iff_lt_mul (by omega), ← hp]; exact hm) (by omega) (by simpa using hk)
theorem rdn_cut {m k : Nat} (h : m < 72057594037927936) (hk : k < (num m).length) : rdn ((num m).take k) = (0, 0, 20) := rdGo_cut m 0 0 k (by simpa using h) (by omega) hk

/-- What is found has at most eight bytes, and no more than there are. -/
theorem rdGo_size : ∀ (l : List Nat) (i a : Nat), i < 8 → (rdGo l i a).2.2 = 0 → i < (rdGo l i a).2.1 ∧ (rdGo l i a).2.1 ≤ 8 ∧ (rdGo l i a).2.1 ≤ i + l.length
  | [], _, _, _, h => by simp [rdGo] at h
  | c :: l, i, a, hi, h => by
    rw [rdGo] at h ⊢
    split
    · rename_i hc
      rw [if_pos hc] at h
      have := rdGo_size l (i + 1) _ (by omega) h
      simp only [List.length_cons]
      omega
    · rename_i hc
      rw [if_neg hc] at h
      split
      · rename_i hc2
        rw [if_pos hc2] at h
        simp at h
      · simp only [List.length_cons]
        omega
theorem rdGo_lt : ∀ (l : List Nat) (i a : Nat), i < 8 → a < 128 ^ i → (rdGo l i a).1 < 72057594037927936
  | [], _, _, _, _ => by simp [rdGo]
  | c :: l, i, a, hi, h => by
    have hs : a + c % 128 * 128 ^ i < 128 ^ (i + 1) := by
      have h1 : c % 128 * 128 ^ i ≤ 127 * 128 ^ i := Nat.mul_le_mul_right _ (by omega)
      rw [Nat.pow_succ]
      omega
    have h8 : 128 ^ (i + 1) ≤ 72057594037927936 := by
      have : 128 ^ (i + 1) ≤ 128 ^ 8 := Nat.pow_le_pow_right (by omega) (by omega)
      exact this
    rw [rdGo]
    split
    · rename_i hc
      exact rdGo_lt l (i + 1) _ (by omega) hs
    · split
      · simp
      · simp only
        omega
theorem rdn_lt (l : List Nat) : (rdn l).1 < 72057594037927936 := rdGo_lt l 0 0 (by omega) (by omega)
end Go.Icz
end
section
namespace Go.Proofs.YtaoeabnpmpimgaaDoor
open Go.RowKit Go.Icz

theorem or_join {k a d : Nat} (ha : a < 128 ^ k) (hd : d < 128) (hk : k ≤ 7) : bits .or .i64 (a : Int) ((d * 128 ^ k : Nat) : Int) = ((a + d * 128 ^ k : Nat) : Int) := by
  have hp : 128 ^ k ≤ 128 ^ 7 := Nat.pow_le_pow_right (by omega) hk
  have hm : d * 128 ^ k ≤ 127 * 128 ^ 7 := Nat.mul_le_mul (by omega) hp
  have e : 128 ^ k = 2 ^ (7 * k) := by rw [Nat.pow_mul]
  rw [(bits_nat .i64 62 (by decide) (fun n h0 h1 => by rw [IntKind.wrap_i64]; omega) a (d * 128 ^ k) (by omega) (by omega)).2]
  rw [e] at ha ⊢
  rw [Nat.or_comm, Nat.mul_comm d, ← Nat.two_pow_add_eq_or_of_lt ha d, Nat.add_comm]
theorem andNot128 {x : Nat} (hx : x < 256) : bits .andNot .u8 (x : Int) 128 = ((x % 128 : Nat) : Int) := by
  have h := u8_andNot_nat x 128 hx (by omega)
  rw [show x &&& (255 - 128) = x % 128 from Nat.and_two_pow_sub_one_eq_mod x 7] at h
  exact h
/-- One byte's step, in the walk's spelling. -/
theorem rd_facts {x k a : Nat} (hx : x < 256) (hk : k ≤ 7) (ha : a < 128 ^ k) :
    ∃ d y a2 : Nat, bits .andNot .u8 (x : Int) 128 = (d : Int) ∧ d < 128 ∧ wrap64 ((d : Int) * 2 ^ (7 * k)) = (y : Int) ∧ bits .or .i64 (a : Int) (y : Int) = (a2 : Int) ∧ a2 = a + x % 128 * 128 ^ k ∧ a2 < 128 ^ (k + 1) := by
  have hp : 128 ^ k ≤ 128 ^ 7 := Nat.pow_le_pow_right (by omega) hk
  have hm : x % 128 * 128 ^ k ≤ 127 * 128 ^ k := Nat.mul_le_mul_right _ (by omega)
  refine ⟨x % 128, x % 128 * 128 ^ k, a + x % 128 * 128 ^ k, andNot128 hx, by omega, ?_, or_join ha (by omega) hk, rfl, by rw [Nat.pow_succ]; omega⟩
  have e : ((x % 128 : Nat) : Int) * 2 ^ (7 * k) = ((x % 128 * 128 ^ k : Nat) : Int) := by
    rw [Nat.pow_mul' 2 7 k |> fun _ => (show (128 : Nat) ^ k = 2 ^ (7 * k) by rw [Nat.pow_mul])]
    simp
  rw [e]
  exact IntWalk.wrap64_in _ ⟨by omega, by omega⟩

end Go.Proofs.YtaoeabnpmpimgaaDoor
end
