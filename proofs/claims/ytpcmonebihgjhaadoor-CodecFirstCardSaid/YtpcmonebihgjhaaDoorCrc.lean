/-
  CRC-32C on natural numbers: the bit-wise step, the nibble-wise step by the table, that both come to one, and that a register is told by what it becomes. Conditions: those that each theorem names.
-/
namespace Go.Icy

/-- The table of the sixteen numbers. -/
def tab : List Int := [0, 274646895, 549293790, 820201905, 1098587580, 1361435347, 1640403810, 1905808397, 2197175160, 2460548119, 2722870694, 2987750089, 3280807620, 3553878443, 3811616794, 4084100981]
def tabN (i : Nat) : Nat := (tab.getD i 0).toNat
/-- One bit. -/
def bit1 (d : Nat) : Nat := d / 2 ^^^ (if d % 2 = 1 then 2197175160 else 0)
/-- Four bits, by the table. -/
def nib (r : Nat) : Nat := tabN (r % 16) ^^^ r / 16
/-- A byte. -/
def byt (r c : Nat) : Nat := nib (nib (r ^^^ c))
/-- Bytes, one behind the other. -/
def reg (r : Nat) (l : List Nat) : Nat := l.foldl byt r
def crc (l : List Nat) : Nat := 4294967295 ^^^ reg 4294967295 l

theorem tab_lt : ∀ i : Fin 16, tabN i.val < 4294967296 := by decide +kernel
theorem tab_top : ∀ i : Fin 16, tabN i.val / 268435456 = i.val := by decide +kernel
theorem tab_bits : ∀ i : Fin 16, bit1 (bit1 (bit1 (bit1 i.val))) = tabN i.val := by decide +kernel
theorem tab_eq : ∀ i : Fin 16, tab.getD i.val 0 = (tabN i.val : Int) := by decide +kernel

theorem xor_lt {a b : Nat} (ha : a < 4294967296) (hb : b < 4294967296) : a ^^^ b < 4294967296 := Nat.xor_lt_two_pow (n := 32) ha hb
theorem nib_lt {r : Nat} (h : r < 4294967296) : nib r < 4294967296 := xor_lt (tab_lt ⟨r % 16, Nat.mod_lt _ (by omega)⟩) (by omega)
theorem byt_lt {r c : Nat} (h : r < 4294967296) (hc : c < 256) : byt r c < 4294967296 := nib_lt (nib_lt (xor_lt h (by omega)))
theorem reg_lt : ∀ (l : List Nat) (r : Nat), r < 4294967296 → (∀ c ∈ l, c < 256) → reg r l < 4294967296
  | [], r, h, _ => h
  | c :: l, r, h, hl => by
    rw [reg, List.foldl_cons]
    exact reg_lt l _ (byt_lt h (hl c (by simp))) (fun x hx => hl x (by simp [hx]))
theorem reg_app (r : Nat) (l m : List Nat) : reg r (l ++ m) = reg (reg r l) m := List.foldl_append

theorem div_xor (a b k : Nat) : (a ^^^ b) / 2 ^ k = a / 2 ^ k ^^^ b / 2 ^ k := by
  rw [← Nat.shiftRight_eq_div_pow, ← Nat.shiftRight_eq_div_pow, ← Nat.shiftRight_eq_div_pow, Nat.shiftRight_xor_distrib]
theorem half_xor (a b : Nat) : (a ^^^ b) / 2 = a / 2 ^^^ b / 2 := div_xor a b 1
theorem mod_xor (a b : Nat) : (a ^^^ b) % 2 = (a + b) % 2 := by
  have h := Nat.testBit_xor (x := a) (y := b) (i := 0)
  simp only [Nat.testBit_zero] at h
  rcases Nat.mod_two_eq_zero_or_one a with ha | ha <;> rcases Nat.mod_two_eq_zero_or_one b with hb | hb <;> rcases Nat.mod_two_eq_zero_or_one (a ^^^ b) with hx | hx <;> simp [ha, hb, hx] at h <;> omega

theorem xor_four (a b c d : Nat) : (a ^^^ b) ^^^ (c ^^^ d) = (a ^^^ c) ^^^ (b ^^^ d) := by
  rw [Nat.xor_assoc, Nat.xor_assoc, ← Nat.xor_assoc b c d, Nat.xor_comm b c, Nat.xor_assoc c b d]
theorem bit1_xor (a b : Nat) : bit1 (a ^^^ b) = bit1 a ^^^ bit1 b := by
  unfold bit1
  rw [half_xor, mod_xor, xor_four (a / 2)]
  congr 1
  rcases Nat.mod_two_eq_zero_or_one a with ha | ha <;> rcases Nat.mod_two_eq_zero_or_one b with hb | hb
  · rw [if_neg (by omega), if_neg (by omega), if_neg (by omega)]; rfl
  · rw [if_pos (by omega), if_neg (by omega), if_pos hb, Nat.zero_xor]
  · rw [if_pos (by omega), if_pos ha, if_neg (by omega), Nat.xor_zero]
  · rw [if_neg (by omega), if_pos ha, if_pos hb, Nat.xor_self]
theorem bit1_even (q : Nat) : bit1 (2 * q) = q := by
  unfold bit1
  rw [if_neg (by omega), Nat.xor_zero]
  omega
theorem split16 (d : Nat) : d = d % 16 ^^^ (2 * (2 * (2 * (2 * (d / 16))))) := by
  have h : 2 * (2 * (2 * (2 * (d / 16)))) = d / 2 ^ 4 * 2 ^ 4 := by omega
  rw [h, show (16 : Nat) = 2 ^ 4 from rfl]
  apply Nat.eq_of_testBit_eq
  intro i
  rw [Nat.testBit_xor, Nat.testBit_mod_two_pow, Nat.testBit_mul_two_pow, Nat.testBit_div_two_pow]
  by_cases hi : i < 4
  · simp [hi, show ¬ 4 ≤ i by omega]
  · simp [hi, show 4 ≤ i by omega, show i - 4 + 4 = i by omega]
theorem bits4 (d : Nat) : bit1 (bit1 (bit1 (bit1 d))) = nib d := by
  have h1 : bit1 (bit1 (bit1 (bit1 (d % 16)))) = tabN (d % 16) := tab_bits ⟨d % 16, Nat.mod_lt _ (by omega)⟩
  rw [split16 d, bit1_xor, bit1_xor, bit1_xor, bit1_xor, h1, bit1_even, bit1_even, bit1_even, bit1_even, ← split16 d]
  rfl

/-- The reference's step: the register c, the byte b, its bit k. -/
def refBit (c b k : Nat) : Nat := c / 2 ^^^ (if (c % 2 + b / 2 ^ k % 2) % 2 = 1 then 2197175160 else 0)
def refTo (c b : Nat) : Nat → Nat
  | 0 => c
  | k + 1 => refBit (refTo c b k) b k
def bitTo (d : Nat) : Nat → Nat
  | 0 => d
  | k + 1 => bit1 (bitTo d k)
theorem xor_cancel (a b : Nat) : (a ^^^ b) ^^^ b = a := by rw [Nat.xor_assoc, Nat.xor_self, Nat.xor_zero]
theorem refTo_eq (c b : Nat) : ∀ k, refTo c b k = bitTo (c ^^^ b) k ^^^ b / 2 ^ k
  | 0 => by simp only [refTo, bitTo, Nat.pow_zero, Nat.div_one]; rw [xor_cancel]
  | k + 1 => by
    rw [refTo, refTo_eq c b k, bitTo, refBit, bit1, half_xor]
    have hd : b / 2 ^ k / 2 = b / 2 ^ (k + 1) := by rw [Nat.div_div_eq_div_mul, Nat.pow_succ]
    have hm : ((bitTo (c ^^^ b) k ^^^ b / 2 ^ k) % 2 + b / 2 ^ k % 2) % 2 = bitTo (c ^^^ b) k % 2 := by
      rw [mod_xor]; omega
    rw [hd, hm, Nat.xor_assoc, Nat.xor_comm (b / 2 ^ (k + 1)), ← Nat.xor_assoc]
theorem refTo_eight (c b : Nat) (hb : b < 256) : refTo c b 8 = byt c b := by
  rw [refTo_eq, show b / 2 ^ 8 = 0 by omega, Nat.xor_zero]
  show bit1 (bit1 (bit1 (bit1 (bit1 (bit1 (bit1 (bit1 (c ^^^ b)))))))) = nib (nib (c ^^^ b))
  rw [bits4 (c ^^^ b), bits4]
theorem refTo_lt {c b : Nat} (h : c < 4294967296) : ∀ k, refTo c b k < 4294967296
  | 0 => h
  | k + 1 => by
    have := refTo_lt (b := b) h k
    exact xor_lt (by omega) (by split <;> omega)

theorem crc_lt (l : List Nat) (hl : ∀ c ∈ l, c < 256) : crc l < 4294967296 := xor_lt (by omega) (reg_lt l _ (by omega) hl)

/-! A register is told by what it becomes. -/
theorem nib_top {r : Nat} (h : r < 4294967296) : nib r / 268435456 = r % 16 := by
  have h1 := tab_top ⟨r % 16, Nat.mod_lt _ (by omega)⟩
  simp only at h1
  unfold nib
  rw [show (268435456 : Nat) = 2 ^ 28 from rfl] at h1 ⊢
  rw [div_xor, h1, show r / 16 / 2 ^ 28 = 0 by omega, Nat.xor_zero]
theorem nib_inj {r s : Nat} (hr : r < 4294967296) (hs : s < 4294967296) (h : nib r = nib s) : r = s := by
  have h1 : r % 16 = s % 16 := by rw [← nib_top hr, ← nib_top hs, h]
  have h2 : r / 16 = s / 16 := by
    have := congrArg (fun x => x ^^^ tabN (r % 16)) h
    simp only [nib] at this
    rw [← h1, Nat.xor_comm _ (r / 16), xor_cancel, Nat.xor_comm _ (s / 16), xor_cancel] at this
    exact this
  omega
theorem byt_inj {r s c : Nat} (hr : r < 4294967296) (hs : s < 4294967296) (hc : c < 256) (h : byt r c = byt s c) : r = s := by
  have h1 := nib_inj (xor_lt hr (by omega)) (xor_lt hs (by omega)) (nib_inj (nib_lt (xor_lt hr (by omega))) (nib_lt (xor_lt hs (by omega))) h)
  have h2 := congrArg (fun x => x ^^^ c) h1
  simp only [xor_cancel] at h2
  exact h2
theorem byt_inj' {r c d : Nat} (hr : r < 4294967296) (hc : c < 256) (hd : d < 256) (h : byt r c = byt r d) : c = d := by
  have h1 := nib_inj (xor_lt hr (by omega)) (xor_lt hr (by omega)) (nib_inj (nib_lt (xor_lt hr (by omega))) (nib_lt (xor_lt hr (by omega))) h)
  have h2 := congrArg (fun x => x ^^^ r) h1
  simp only [Nat.xor_comm r, xor_cancel] at h2
  exact h2
theorem reg_inj : ∀ (l : List Nat) {r s : Nat}, r < 4294967296 → s < 4294967296 → (∀ c ∈ l, c < 256) → reg r l = reg s l → r = s
  | [], _, _, _, _, _, h => h
  | c :: l, r, s, hr, hs, hl, h => by
    rw [reg, reg, List.foldl_cons, List.foldl_cons] at h
    have hc := hl c (by simp)
    exact byt_inj hr hs hc (reg_inj l (byt_lt hr hc) (byt_lt hs hc) (fun x hx => hl x (by simp [hx])) h)
/-- Bytes of which just one is another one have another sum. -/
theorem crc_one {l m : List Nat} {c d : Nat} (hl : ∀ x ∈ l, x < 256) (hm : ∀ x ∈ m, x < 256) (hc : c < 256) (hd : d < 256) (hne : c ≠ d) : crc (l ++ c :: m) ≠ crc (l ++ d :: m) := by
  intro h
  have hr := reg_lt l 4294967295 (by omega) hl
  have h3 : reg 4294967295 (l ++ c :: m) = reg 4294967295 (l ++ d :: m) := by
    have := congrArg (fun x => x ^^^ 4294967295) h
    simp only [crc, Nat.xor_comm 4294967295, xor_cancel] at this
    exact this
  rw [reg_app, reg_app] at h3
  generalize reg 4294967295 l = r at *
  rw [reg, reg, List.foldl_cons, List.foldl_cons] at h3
  have h4 := reg_inj m (byt_lt hr hc) (byt_lt hr hd) hm h3
  exact hne (byt_inj' hr hc hd h4)
end Go.Icy
