/-
  The reference's Rune as a function of the bytes, and that it agrees with Go's own decoder where that does not err. Conditions: none.
  What the reference's Rune answers. Conditions: lengths that Go's int holds.
  What the reference's Good and Value answer. Conditions: lengths that Go's int holds.
-/
import Derived.Test.YtaoeabnpmpimgaaDoorRefName
import Derived.Lib.ValidLaws
section
namespace Go.Proofs.YtaoeabnpmpimgaaDoor
open Go.RowKit Go.Icz

/-- k further bytes from place i on. -/
def more (s : ByteArray) : Nat → Nat → Nat → Option Nat
  | c, _, 0 => some c
  | c, i, k + 1 => if 128 ≤ (s.get! i).toNat ∧ (s.get! i).toNat < 192 then more s (64 * c + (s.get! i).toNat - 128) (i + 1) k else none
def lastS (least c n : Nat) : Nat × Nat := if c < least ∨ 1114111 < c ∨ (55296 ≤ c ∧ c < 57344) then (0, 0) else (c, n)
def tailN (s : ByteArray) (n c least : Nat) : Nat × Nat :=
  if s.size < n then (0, 0) else match more s c 1 (n - 1) with | none => (0, 0) | some c => lastS least c n
def runeN (s : ByteArray) : Nat × Nat :=
  if s.size = 0 then (0, 0) else
  if (s.get! 0).toNat < 128 then ((s.get! 0).toNat, 1) else
  if (s.get! 0).toNat < 192 then (0, 0) else
  if (s.get! 0).toNat < 224 then tailN s 2 ((s.get! 0).toNat - 192) 128 else
  if (s.get! 0).toNat < 240 then tailN s 3 ((s.get! 0).toNat - 224) 2048 else
  if (s.get! 0).toNat < 248 then tailN s 4 ((s.get! 0).toNat - 240) 65536 else (0, 0)
theorem valid_nat (c : Nat) : Utf8.valid (c : Int) = decide (c < 55296 ∨ (57344 ≤ c ∧ c ≤ 1114111)) := by
  rw [Bool.eq_iff_iff]
  simp [Utf8.valid]
  omega
def decP (n b0 b1 b2 b3 : Nat) : Nat × Nat :=
  if b0 < 128 then (b0, 1)
  else if b0 / 32 = 6 ∧ 1 < n ∧ b1 / 64 = 2 then
    if 128 ≤ b0 % 32 * 64 + b1 % 64 then (b0 % 32 * 64 + b1 % 64, 2) else (65533, 1)
  else if b0 / 16 = 14 ∧ (1 < n ∧ b1 / 64 = 2) ∧ 2 < n ∧ b2 / 64 = 2 then
    if 2048 ≤ b0 % 16 * 4096 + b1 % 64 * 64 + b2 % 64 ∧ (b0 % 16 * 4096 + b1 % 64 * 64 + b2 % 64 < 55296 ∨ (57344 ≤ b0 % 16 * 4096 + b1 % 64 * 64 + b2 % 64 ∧ b0 % 16 * 4096 + b1 % 64 * 64 + b2 % 64 ≤ 1114111)) then
      (b0 % 16 * 4096 + b1 % 64 * 64 + b2 % 64, 3) else (65533, 1)
  else if b0 / 8 = 30 ∧ (1 < n ∧ b1 / 64 = 2) ∧ (2 < n ∧ b2 / 64 = 2) ∧ 3 < n ∧ b3 / 64 = 2 then
    if 65536 ≤ b0 % 8 * 262144 + b1 % 64 * 4096 + b2 % 64 * 64 + b3 % 64 ∧ (b0 % 8 * 262144 + b1 % 64 * 4096 + b2 % 64 * 64 + b3 % 64 < 55296 ∨ (57344 ≤ b0 % 8 * 262144 + b1 % 64 * 4096 + b2 % 64 * 64 + b3 % 64 ∧ b0 % 8 * 262144 + b1 % 64 * 4096 + b2 % 64 * 64 + b3 % 64 ≤ 1114111)) then
      (b0 % 8 * 262144 + b1 % 64 * 4096 + b2 % 64 * 64 + b3 % 64, 4) else (65533, 1)
  else (65533, 1)
def okB (b : Nat) : Prop := 128 ≤ b ∧ b < 192
instance (b : Nat) : Decidable (okB b) := by unfold okB; infer_instance
def runeP (n b0 b1 b2 b3 : Nat) : Nat × Nat :=
  if b0 < 128 then (b0, 1)
  else if b0 < 192 then (0, 0)
  else if b0 < 224 then if n < 2 then (0, 0) else if okB b1 then lastS 128 (64 * (b0 - 192) + b1 - 128) 2 else (0, 0)
  else if b0 < 240 then if n < 3 then (0, 0) else if okB b1 then if okB b2 then lastS 2048 (64 * (64 * (b0 - 224) + b1 - 128) + b2 - 128) 3 else (0, 0) else (0, 0)
  else if b0 < 248 then if n < 4 then (0, 0) else if okB b1 then if okB b2 then if okB b3 then lastS 65536 (64 * (64 * (64 * (b0 - 240) + b1 - 128) + b2 - 128) + b3 - 128) 4 else (0, 0) else (0, 0) else (0, 0)
  else (0, 0)
theorem dec_P (s : ByteArray) : Utf8.decode s 0 = decP s.size (s.get! 0).toNat (s.get! 1).toNat (s.get! 2).toNat (s.get! 3).toNat := by
  unfold Utf8.decode decP
  simp only [Nat.zero_add, Bool.and_eq_true, decide_eq_true_eq, beq_iff_eq, ge_iff_le, valid_nat, Utf8.runeError, and_assoc]
theorem more_step (s : ByteArray) (c i k : Nat) : more s c i (k + 1) = if okB (s.get! i).toNat then more s (64 * c + (s.get! i).toNat - 128) (i + 1) k else none := rfl
theorem tail2 (s : ByteArray) (c least : Nat) : tailN s 2 c least = if s.size < 2 then (0, 0) else if okB (s.get! 1).toNat then lastS least (64 * c + (s.get! 1).toNat - 128) 2 else (0, 0) := by
  unfold tailN
  split
  · rfl
  · rw [show (2 : Nat) - 1 = 0 + 1 from rfl, more_step]
    by_cases k1 : okB (s.get! 1).toNat
    · rw [if_pos k1, if_pos k1]; rfl
    · rw [if_neg k1, if_neg k1]
theorem tail3 (s : ByteArray) (c least : Nat) : tailN s 3 c least = if s.size < 3 then (0, 0) else if okB (s.get! 1).toNat then if okB (s.get! 2).toNat then lastS least (64 * (64 * c + (s.get! 1).toNat - 128) + (s.get! 2).toNat - 128) 3 else (0, 0) else (0, 0) := by
  unfold tailN
  split
  · rfl
  · rw [show (3 : Nat) - 1 = 1 + 1 from rfl, more_step, show (1 : Nat) = 0 + 1 from rfl, more_step]
    by_cases k1 : okB (s.get! (0 + 1)).toNat
    · rw [if_pos k1, if_pos k1]
      by_cases k2 : okB (s.get! (0 + 1 + 1)).toNat
      · rw [if_pos k2, if_pos k2]; rfl
      · rw [if_neg k2, if_neg k2]
    · rw [if_neg k1, if_neg k1]
theorem tail4 (s : ByteArray) (c least : Nat) : tailN s 4 c least = if s.size < 4 then (0, 0) else if okB (s.get! 1).toNat then if okB (s.get! 2).toNat then if okB (s.get! 3).toNat then lastS least (64 * (64 * (64 * c + (s.get! 1).toNat - 128) + (s.get! 2).toNat - 128) + (s.get! 3).toNat - 128) 4 else (0, 0) else (0, 0) else (0, 0) := by
  unfold tailN
  split
  · rfl
  · by_cases k1 : okB (s.get! 1).toNat
    · by_cases k2 : okB (s.get! 2).toNat
      · by_cases k3 : okB (s.get! 3).toNat
        · have e : more s c 1 (4 - 1) = some (64 * (64 * (64 * c + (s.get! 1).toNat - 128) + (s.get! 2).toNat - 128) + (s.get! 3).toNat - 128) := by
            show more s c 1 (2 + 1) = _
            rw [more_step, if_pos k1]
            show more s _ 2 (1 + 1) = _
            rw [more_step, if_pos k2]
            show more s _ 3 (0 + 1) = _
            rw [more_step, if_pos k3]
            rfl
          rw [e, if_pos k1, if_pos k2, if_pos k3]
        · have e : more s c 1 (4 - 1) = none := by
            show more s c 1 (2 + 1) = _
            rw [more_step, if_pos k1]
            show more s _ 2 (1 + 1) = _
            rw [more_step, if_pos k2]
            show more s _ 3 (0 + 1) = _
            rw [more_step, if_neg k3]
          rw [e, if_pos k1, if_pos k2, if_neg k3]
      · have e : more s c 1 (4 - 1) = none := by
          show more s c 1 (2 + 1) = _
          rw [more_step, if_pos k1]
          show more s _ 2 (1 + 1) = _
          rw [more_step, if_neg k2]
        rw [e, if_pos k1, if_neg k2]
    · have e : more s c 1 (4 - 1) = none := by
        show more s c 1 (2 + 1) = _
        rw [more_step, if_neg k1]
      rw [e, if_neg k1]
theorem rune_P (s : ByteArray) (h : 0 < s.size) : runeN s = runeP s.size (s.get! 0).toNat (s.get! 1).toNat (s.get! 2).toNat (s.get! 3).toNat := by
  unfold runeN runeP
  rw [if_neg (by omega), tail2, tail3, tail4]
theorem last_cases (least c n : Nat) : (lastS least c n = (0, 0) ∧ (c < least ∨ 1114111 < c ∨ (55296 ≤ c ∧ c < 57344))) ∨ (lastS least c n = (c, n) ∧ ¬ (c < least ∨ 1114111 < c ∨ (55296 ≤ c ∧ c < 57344))) := by
  unfold lastS
  split
  · exact .inl ⟨rfl, by assumption⟩
  · exact .inr ⟨rfl, by assumption⟩
def Agree (n b0 b1 b2 b3 : Nat) : Prop := (decP n b0 b1 b2 b3 = (65533, 1) ∧ runeP n b0 b1 b2 b3 = (0, 0)) ∨ (¬ decP n b0 b1 b2 b3 = (65533, 1) ∧ runeP n b0 b1 b2 b3 = decP n b0 b1 b2 b3)
theorem Agree.bad {n b0 b1 b2 b3 : Nat} (hd : decP n b0 b1 b2 b3 = (65533, 1)) (hr : runeP n b0 b1 b2 b3 = (0, 0)) : Agree n b0 b1 b2 b3 := .inl ⟨hd, hr⟩
theorem Agree.good {n b0 b1 b2 b3 c k : Nat} (hk : 2 ≤ k) (hd : decP n b0 b1 b2 b3 = (c, k)) (hr : runeP n b0 b1 b2 b3 = (c, k)) : Agree n b0 b1 b2 b3 := .inr ⟨by rw [hd]; intro e; injection e; omega, by rw [hd, hr]⟩
theorem pure2 (n b0 b1 b2 b3 : Nat) (a2 : ¬ b0 < 192) (a3 : b0 < 224) (h1 : b1 < 256) : Agree n b0 b1 b2 b3 := by
  have hR : ∀ r, (if n < 2 then (0, 0) else if okB b1 then lastS 128 (64 * (b0 - 192) + b1 - 128) 2 else (0, 0)) = r → runeP n b0 b1 b2 b3 = r := fun r h => by unfold runeP; rw [if_neg (by omega), if_neg a2, if_pos a3]; exact h
  have hD0 : ¬ (1 < n ∧ b1 / 64 = 2) → decP n b0 b1 b2 b3 = (65533, 1) := fun h => by unfold decP; rw [if_neg (by omega), if_neg (by omega), if_neg (by omega), if_neg (by omega)]
  have hD : ∀ r, 1 < n ∧ b1 / 64 = 2 → (if 128 ≤ b0 % 32 * 64 + b1 % 64 then (b0 % 32 * 64 + b1 % 64, 2) else (65533, 1)) = r → decP n b0 b1 b2 b3 = r := fun r h e => by unfold decP; rw [if_neg (by omega), if_pos (by omega)]; exact e
  by_cases hn : n < 2
  · exact Agree.bad (hD0 (by omega)) (hR _ (by rw [if_pos hn]))
  · by_cases k1 : okB b1
    · have k1' := k1
      unfold okB at k1'
      have e : 64 * (b0 - 192) + b1 - 128 = b0 % 32 * 64 + b1 % 64 := by omega
      rw [e] at hR
      rcases last_cases 128 (b0 % 32 * 64 + b1 % 64) 2 with ⟨h, q⟩ | ⟨h, q⟩
      · exact Agree.bad (hD _ (by omega) (by rw [if_neg (by omega)])) (hR _ (by rw [if_neg hn, if_pos k1, h]))
      · exact Agree.good (c := b0 % 32 * 64 + b1 % 64) (k := 2) (by omega) (hD _ (by omega) (by rw [if_pos (by omega)])) (hR _ (by rw [if_neg hn, if_pos k1, h]))
    · have k1' := k1
      unfold okB at k1'
      exact Agree.bad (hD0 (by omega)) (hR _ (by rw [if_neg hn, if_neg k1]))
theorem pure3 (n b0 b1 b2 b3 : Nat) (a2 : ¬ b0 < 224) (a3 : b0 < 240) (h1 : b1 < 256) (h2 : b2 < 256) : Agree n b0 b1 b2 b3 := by
  have hR : ∀ r, (if n < 3 then (0, 0) else if okB b1 then if okB b2 then lastS 2048 (64 * (64 * (b0 - 224) + b1 - 128) + b2 - 128) 3 else (0, 0) else (0, 0)) = r → runeP n b0 b1 b2 b3 = r := fun r h => by unfold runeP; rw [if_neg (by omega), if_neg (by omega), if_neg a2, if_pos a3]; exact h
  have hD0 : ¬ (2 < n ∧ b1 / 64 = 2 ∧ b2 / 64 = 2) → decP n b0 b1 b2 b3 = (65533, 1) := fun h => by unfold decP; rw [if_neg (by omega), if_neg (by omega), if_neg (by omega), if_neg (by omega)]
  have hD : ∀ r, (2 < n ∧ b1 / 64 = 2 ∧ b2 / 64 = 2) → (if 2048 ≤ b0 % 16 * 4096 + b1 % 64 * 64 + b2 % 64 ∧ (b0 % 16 * 4096 + b1 % 64 * 64 + b2 % 64 < 55296 ∨ (57344 ≤ b0 % 16 * 4096 + b1 % 64 * 64 + b2 % 64 ∧ b0 % 16 * 4096 + b1 % 64 * 64 + b2 % 64 ≤ 1114111)) then
      (b0 % 16 * 4096 + b1 % 64 * 64 + b2 % 64, 3) else (65533, 1)) = r → decP n b0 b1 b2 b3 = r := fun r h e => by unfold decP; rw [if_neg (by omega), if_neg (by omega), if_pos (by omega)]; exact e
  by_cases hn : n < 3
  · exact Agree.bad (hD0 (by omega)) (hR _ (by rw [if_pos hn]))
  · by_cases k1 : okB b1
    · by_cases k2 : okB b2
      · have k1' := k1
        have k2' := k2
        unfold okB at k1' k2'
        have e : 64 * (64 * (b0 - 224) + b1 - 128) + b2 - 128 = b0 % 16 * 4096 + b1 % 64 * 64 + b2 % 64 := by omega
        rw [e] at hR
        have hg : 2 < n ∧ b1 / 64 = 2 ∧ b2 / 64 = 2 := by omega
        generalize b0 % 16 * 4096 + b1 % 64 * 64 + b2 % 64 = c at *
        rcases last_cases 2048 c 3 with ⟨h, q⟩ | ⟨h, q⟩
        · exact Agree.bad (hD _ hg (by rw [if_neg (by omega)])) (hR _ (by rw [if_neg hn, if_pos k1, if_pos k2, h]))
        · exact Agree.good (c := c) (k := 3) (by omega) (hD _ hg (by rw [if_pos (by omega)])) (hR _ (by rw [if_neg hn, if_pos k1, if_pos k2, h]))
      · have k2' := k2
        unfold okB at k2'
        exact Agree.bad (hD0 (by omega)) (hR _ (by rw [if_neg hn, if_pos k1, if_neg k2]))
    · have k1' := k1
      unfold okB at k1'
      exact Agree.bad (hD0 (by omega)) (hR _ (by rw [if_neg hn, if_neg k1]))
theorem pure4 (n b0 b1 b2 b3 : Nat) (a2 : ¬ b0 < 240) (a3 : b0 < 248) (h1 : b1 < 256) (h2 : b2 < 256) (h3 : b3 < 256) : Agree n b0 b1 b2 b3 := by
  have hR : ∀ r, (if n < 4 then (0, 0) else if okB b1 then if okB b2 then if okB b3 then lastS 65536 (64 * (64 * (64 * (b0 - 240) + b1 - 128) + b2 - 128) + b3 - 128) 4 else (0, 0) else (0, 0) else (0, 0)) = r → runeP n b0 b1 b2 b3 = r := fun r h => by unfold runeP; rw [if_neg (by omega), if_neg (by omega), if_neg (by omega), if_neg a2, if_pos a3]; exact h
  have hD0 : ¬ (3 < n ∧ b1 / 64 = 2 ∧ b2 / 64 = 2 ∧ b3 / 64 = 2) → decP n b0 b1 b2 b3 = (65533, 1) := fun h => by unfold decP; rw [if_neg (by omega), if_neg (by omega), if_neg (by omega), if_neg (by omega)]
  have hD : ∀ r, (3 < n ∧ b1 / 64 = 2 ∧ b2 / 64 = 2 ∧ b3 / 64 = 2) → (if 65536 ≤ b0 % 8 * 262144 + b1 % 64 * 4096 + b2 % 64 * 64 + b3 % 64 ∧ (b0 % 8 * 262144 + b1 % 64 * 4096 + b2 % 64 * 64 + b3 % 64 < 55296 ∨ (57344 ≤ b0 % 8 * 262144 + b1 % 64 * 4096 + b2 % 64 * 64 + b3 % 64 ∧ b0 % 8 * 262144 + b1 % 64 * 4096 + b2 % 64 * 64 + b3 % 64 ≤ 1114111)) then
      (b0 % 8 * 262144 + b1 % 64 * 4096 + b2 % 64 * 64 + b3 % 64, 4) else (65533, 1)) = r → decP n b0 b1 b2 b3 = r := fun r h e => by unfold decP; rw [if_neg (by omega), if_neg (by omega), if_neg (by omega), if_pos (by omega)]; exact e
  by_cases hn : n < 4
  · exact Agree.bad (hD0 (by omega)) (hR _ (by rw [if_pos hn]))
  · by_cases k1 : okB b1
    · by_cases k2 : okB b2
      · by_cases k3 : okB b3
        · have k1' := k1
          have k2' := k2
          have k3' := k3
          unfold okB at k1' k2' k3'
          have e : 64 * (64 * (64 * (b0 - 240) + b1 - 128) + b2 - 128) + b3 - 128 = b0 % 8 * 262144 + b1 % 64 * 4096 + b2 % 64 * 64 + b3 % 64 := by omega
          rw [e] at hR
          have hg : 3 < n ∧ b1 / 64 = 2 ∧ b2 / 64 = 2 ∧ b3 / 64 = 2 := by omega
          generalize b0 % 8 * 262144 + b1 % 64 * 4096 + b2 % 64 * 64 + b3 % 64 = c at *
          rcases last_cases 65536 c 4 with ⟨h, q⟩ | ⟨h, q⟩
          · exact Agree.bad (hD _ hg (by rw [if_neg (by omega)])) (hR _ (by rw [if_neg hn, if_pos k1, if_pos k2, if_pos k3, h]))
          · exact Agree.good (c := c) (k := 4) (by omega) (hD _ hg (by rw [if_pos (by omega)])) (hR _ (by rw [if_neg hn, if_pos k1, if_pos k2, if_pos k3, h]))
        · have k3' := k3
          unfold okB at k3'
          exact Agree.bad (hD0 (by omega)) (hR _ (by rw [if_neg hn, if_pos k1, if_pos k2, if_neg k3]))
      · have k2' := k2
        unfold okB at k2'
        exact Agree.bad (hD0 (by omega)) (hR _ (by rw [if_neg hn, if_pos k1, if_neg k2]))
    · have k1' := k1
      unfold okB at k1'
      exact Agree.bad (hD0 (by omega)) (hR _ (by rw [if_neg hn, if_neg k1]))
/-- What Rune answers is what Go's own decoder answers, where that does not err. -/
theorem rune_decode (s : ByteArray) (h : 0 < s.size) : (Utf8.decode s 0 = (65533, 1) ∧ runeN s = (0, 0)) ∨ (¬ Utf8.decode s 0 = (65533, 1) ∧ runeN s = Utf8.decode s 0) := by
  have h1 := (s.get! 1).toNat_lt
  have h2 := (s.get! 2).toNat_lt
  have h3 := (s.get! 3).toNat_lt
  rw [dec_P, rune_P s h]
  show Agree _ _ _ _ _
  by_cases a1 : (s.get! 0).toNat < 128
  · right
    unfold decP runeP
    rw [if_pos a1, if_pos a1]
    exact ⟨fun e => by simp at e; omega, rfl⟩
  · by_cases a2 : (s.get! 0).toNat < 192
    · exact Agree.bad (by unfold decP; rw [if_neg a1, if_neg (by omega), if_neg (by omega), if_neg (by omega)]) (by unfold runeP; rw [if_neg a1, if_pos a2])
    · by_cases a3 : (s.get! 0).toNat < 224
      · exact pure2 _ _ _ _ _ a2 a3 h1
      · by_cases a4 : (s.get! 0).toNat < 240
        · exact pure3 _ _ _ _ _ a3 a4 h1 h2
        · by_cases a5 : (s.get! 0).toNat < 248
          · exact pure4 _ _ _ _ _ a4 a5 h1 h2 h3
          · exact Agree.bad (by unfold decP; rw [if_neg a1, if_neg (by omega), if_neg (by omega), if_neg (by omega)]) (by unfold runeP; rw [if_neg a1, if_neg a2, if_neg a3, if_neg a4, if_neg a5])
end Go.Proofs.YtaoeabnpmpimgaaDoor
end
section
namespace Go.Proofs.YtaoeabnpmpimgaaDoor
open Go.RowKit Go.Icz

theorem at_get (s : ByteArray) (i : Nat) (h : i < s.size) : s.get! i = s[i]'h := by
  simp [ByteArray.get!, getElem!_pos, h]
  rfl
set_option maxHeartbeats 4000000 in
set_option maxRecDepth 100000 in
theorem Rune_2 (s : ByteArray) (w : World) (hs : s.size ≤ 9223372036854775807) (h0 : 0 < s.size) (HR : Hid (runeN s = if (s[0]'h0).toNat < 128 then ((s[0]'h0).toNat, 1) else
      if (s[0]'h0).toNat < 192 then (0, 0) else
      if (s[0]'h0).toNat < 224 then tailN s 2 ((s[0]'h0).toNat - 192) 128 else
      if (s[0]'h0).toNat < 240 then tailN s 3 ((s[0]'h0).toNat - 224) 2048 else
      if (s[0]'h0).toNat < 248 then tailN s 4 ((s[0]'h0).toNat - 240) 65536 else (0, 0))) (a1 : ¬ (s[0]'h0).toNat < 128) (a2 : ¬ (s[0]'h0).toNat < 192) (a3 : (s[0]'h0).toNat < 224) :
    Calls Tryd.prog 84 #[.string s] w fun e w' => e = .returned (.tuple #[.int .i64 (runeN s).1, .int .i64 (runeN s).2]) ∧ w' = w := by
  have hz : ((s.size : Int) == 0) = false := by rw [beq_eq_false_iff_ne]; omega
  have HA : Hid (runeN s = tailN s 2 ((s[0]'h0).toNat - 192) 128) := hid (by rw [HR.out, if_neg a1, if_neg a2, if_pos a3])
  have f20 : ¬ ((s[0]'h0).toNat : Int) < 128 := by omega
  have f2192 : (192 : Int) ≤ (s[0]'h0).toNat := by omega
  have f2h : ((s[0]'h0).toNat : Int) < 224 := by omega
  by_cases hn : s.size < 2
  · have HF : Hid (runeN s = (0, 0)) := hid (by rw [HA.out]; unfold tailN; rw [if_pos hn])
    have hn' : (s.size : Int) < 2 := by omega
    clear HA HR
    go_enter Tryd.func84, Tryd.ntmps84
    go_wp2
    go_ret2
    exact ⟨by rw [HF.out]; rfl, rfl⟩
  · have HB : Hid (runeN s = match more s ((s[0]'h0).toNat - 192) 1 1 with | none => (0, 0) | some c => lastS 128 c 2) := hid (by rw [HA.out]; unfold tailN; rw [if_neg hn]; rfl)
    have hn' : ¬ (s.size : Int) < 2 := by omega
    clear HA HR
    go_enter Tryd.func84, Tryd.ntmps84
    go_wp2
    go_loopw [4, 7] (fun cv iv wr => ∃ (c i : Nat), cv = .int .i64 c ∧ iv = .int .i64 i ∧ 1 ≤ i ∧ i ≤ 2 ∧ c + 1 ≤ 64 ^ i ∧ wr = w ∧ Hid (more s ((s[0]'h0).toNat - 192) 1 1 = more s c i (2 - i))) (fun _ iv _ => 2 - (intOf iv).toNat)
    case atStart => exact ⟨(s[0]'h0).toNat - 192, 1, by show Value.int _ _ = _; congr 1; omega, rfl, by omega, by omega, by omega, rfl, hid rfl⟩
    case round =>
      obtain ⟨c, i, rfl, rfl, hi1, hi2, hc, rfl, HX⟩ := hrel
      have hp : 64 ^ i ≤ 64 ^ 4 := Nat.pow_le_pow_right (by decide) (by omega)
      have hp4 : 64 ^ 4 = 16777216 := by decide
      have hcz : c < 16777216 := by omega
      by_cases hlt : i < 2
      · have hi : i < s.size := by omega
        have hgi := at_get s i hi
        have HS : Hid (more s c i (2 - i) = if 128 ≤ (s[i]'hi).toNat ∧ (s[i]'hi).toNat < 192 then more s (64 * c + (s[i]'hi).toNat - 128) (i + 1) (2 - (i + 1)) else none) := hid (by rw [show 2 - i = (2 - (i + 1)) + 1 by omega, more, hgi])
        have hb := (s[i]'hi).toNat_lt
        by_cases k1 : (s[i]'hi).toNat < 128
        · have HF : Hid (runeN s = (0, 0)) := hid (by rw [HB.out, HX.out, HS.out, if_neg (by omega)])
          have k1' : ((s[i]'hi).toNat : Int) < 128 := by omega
          clear HB HX HS
          go_wp2
          go_ret2
          exact ⟨by rw [HF.out]; rfl, rfl⟩
        · have k1' : ¬ ((s[i]'hi).toNat : Int) < 128 := by omega
          by_cases k2 : (s[i]'hi).toNat < 192
          · have k2' : ((s[i]'hi).toNat : Int) < 192 := by omega
            have HY : Hid (more s ((s[0]'h0).toNat - 192) 1 1 = more s (64 * c + (s[i]'hi).toNat - 128) (i + 1) (2 - (i + 1))) := hid (by rw [HX.out, HS.out, if_pos (by omega)])
            have hpow : 64 ^ (i + 1) = 64 ^ i * 64 := by rw [Nat.pow_succ]
            clear HB HX HS
            go_wp2
            go_roundw
            case rel => exact ⟨64 * c + (s[i]'hi).toNat - 128, i + 1, by show Value.int _ _ = _; congr 1; omega, by go_num, by omega, by omega, by omega, trivial, HY⟩
            case measure => simp [intOf]; omega
          · have k2' : ¬ ((s[i]'hi).toNat : Int) < 192 := by omega
            have HF : Hid (runeN s = (0, 0)) := hid (by rw [HB.out, HX.out, HS.out, if_neg (by omega)])
            clear HB HX HS
            go_wp2
            go_ret2
            exact ⟨by rw [HF.out]; rfl, rfl⟩
      · obtain rfl : i = 2 := by omega
        have HT : Hid (runeN s = lastS 128 c 2) := hid (by rw [HB.out, HX.out]; rfl)
        clear HB HX hp hp4
        rcases (by omega : c < 128 ∨ (128 ≤ c ∧ 1114111 < c) ∨ (128 ≤ c ∧ c ≤ 1114111 ∧ c < 55296) ∨ (128 ≤ c ∧ c ≤ 1114111 ∧ 55296 ≤ c ∧ c < 57344) ∨ (128 ≤ c ∧ c ≤ 1114111 ∧ 57344 ≤ c)) with q | q | q | q | q
        · have HF : Hid (runeN s = (0, 0)) := hid (by rw [HT.out]; unfold lastS; rw [if_pos (by omega)])
          have q1 : (c : Int) < 128 := by omega
          go_wp2
          go_ret2
          exact ⟨by rw [HF.out]; rfl, rfl⟩
        · have HF : Hid (runeN s = (0, 0)) := hid (by rw [HT.out]; unfold lastS; rw [if_pos (by omega)])
          have q1 : ¬ (c : Int) < 128 := by omega
          have q2 : (1114111 : Int) < c := by omega
          go_wp2
          go_ret2
          exact ⟨by rw [HF.out]; rfl, rfl⟩
        · have HF : Hid (runeN s = (c, 2)) := hid (by rw [HT.out]; unfold lastS; rw [if_neg (by omega)])
          have q1 : ¬ (c : Int) < 128 := by omega
          have q2 : ¬ (1114111 : Int) < c := by omega
          have q3 : ¬ (55296 : Int) ≤ c := by omega
          go_wp2
          go_ret2
          exact ⟨by rw [HF.out]; rfl, rfl⟩
        · have HF : Hid (runeN s = (0, 0)) := hid (by rw [HT.out]; unfold lastS; rw [if_pos (by omega)])
          have q1 : ¬ (c : Int) < 128 := by omega
          have q2 : ¬ (1114111 : Int) < c := by omega
          have q3 : (55296 : Int) ≤ c := by omega
          have q4 : (c : Int) < 57344 := by omega
          go_wp2
          go_ret2
          exact ⟨by rw [HF.out]; rfl, rfl⟩
        · have HF : Hid (runeN s = (c, 2)) := hid (by rw [HT.out]; unfold lastS; rw [if_neg (by omega)])
          have q1 : ¬ (c : Int) < 128 := by omega
          have q2 : ¬ (1114111 : Int) < c := by omega
          have q3 : (55296 : Int) ≤ c := by omega
          have q4 : ¬ (c : Int) < 57344 := by omega
          go_wp2
          go_ret2
          exact ⟨by rw [HF.out]; rfl, rfl⟩
set_option maxHeartbeats 4000000 in
set_option maxRecDepth 100000 in
theorem Rune_3 (s : ByteArray) (w : World) (hs : s.size ≤ 9223372036854775807) (h0 : 0 < s.size) (HR : Hid (runeN s = if (s[0]'h0).toNat < 128 then ((s[0]'h0).toNat, 1) else
      if (s[0]'h0).toNat < 192 then (0, 0) else
      if (s[0]'h0).toNat < 224 then tailN s 2 ((s[0]'h0).toNat - 192) 128 else
      if (s[0]'h0).toNat < 240 then tailN s 3 ((s[0]'h0).toNat - 224) 2048 else
      if (s[0]'h0).toNat < 248 then tailN s 4 ((s[0]'h0).toNat - 240) 65536 else (0, 0))) (a1 : ¬ (s[0]'h0).toNat < 128) (a2 : ¬ (s[0]'h0).toNat < 192) (a3 : ¬ (s[0]'h0).toNat < 224) (a4 : (s[0]'h0).toNat < 240) :
    Calls Tryd.prog 84 #[.string s] w fun e w' => e = .returned (.tuple #[.int .i64 (runeN s).1, .int .i64 (runeN s).2]) ∧ w' = w := by
  have hz : ((s.size : Int) == 0) = false := by rw [beq_eq_false_iff_ne]; omega
  have HA : Hid (runeN s = tailN s 3 ((s[0]'h0).toNat - 224) 2048) := hid (by rw [HR.out, if_neg a1, if_neg a2, if_neg a3, if_pos a4])
  have f30 : ¬ ((s[0]'h0).toNat : Int) < 128 := by omega
  have f3192 : (192 : Int) ≤ (s[0]'h0).toNat := by omega
  have f3n224 : ¬ ((s[0]'h0).toNat : Int) < 224 := by omega
  have f3224 : (224 : Int) ≤ (s[0]'h0).toNat := by omega
  have f3h : ((s[0]'h0).toNat : Int) < 240 := by omega
  by_cases hn : s.size < 3
  · have HF : Hid (runeN s = (0, 0)) := hid (by rw [HA.out]; unfold tailN; rw [if_pos hn])
    have hn' : (s.size : Int) < 3 := by omega
    clear HA HR
    go_enter Tryd.func84, Tryd.ntmps84
    go_wp2
    go_ret2
    exact ⟨by rw [HF.out]; rfl, rfl⟩
  · have HB : Hid (runeN s = match more s ((s[0]'h0).toNat - 224) 1 2 with | none => (0, 0) | some c => lastS 2048 c 3) := hid (by rw [HA.out]; unfold tailN; rw [if_neg hn]; rfl)
    have hn' : ¬ (s.size : Int) < 3 := by omega
    clear HA HR
    go_enter Tryd.func84, Tryd.ntmps84
    go_wp2
    go_loopw [4, 7] (fun cv iv wr => ∃ (c i : Nat), cv = .int .i64 c ∧ iv = .int .i64 i ∧ 1 ≤ i ∧ i ≤ 3 ∧ c + 1 ≤ 64 ^ i ∧ wr = w ∧ Hid (more s ((s[0]'h0).toNat - 224) 1 2 = more s c i (3 - i))) (fun _ iv _ => 3 - (intOf iv).toNat)
    case atStart => exact ⟨(s[0]'h0).toNat - 224, 1, by show Value.int _ _ = _; congr 1; omega, rfl, by omega, by omega, by omega, rfl, hid rfl⟩
    case round =>
      obtain ⟨c, i, rfl, rfl, hi1, hi2, hc, rfl, HX⟩ := hrel
      have hp : 64 ^ i ≤ 64 ^ 4 := Nat.pow_le_pow_right (by decide) (by omega)
      have hp4 : 64 ^ 4 = 16777216 := by decide
      have hcz : c < 16777216 := by omega
      by_cases hlt : i < 3
      · have hi : i < s.size := by omega
        have hgi := at_get s i hi
        have HS : Hid (more s c i (3 - i) = if 128 ≤ (s[i]'hi).toNat ∧ (s[i]'hi).toNat < 192 then more s (64 * c + (s[i]'hi).toNat - 128) (i + 1) (3 - (i + 1)) else none) := hid (by rw [show 3 - i = (3 - (i + 1)) + 1 by omega, more, hgi])
        have hb := (s[i]'hi).toNat_lt
        by_cases k1 : (s[i]'hi).toNat < 128
        · have HF : Hid (runeN s = (0, 0)) := hid (by rw [HB.out, HX.out, HS.out, if_neg (by omega)])
          have k1' : ((s[i]'hi).toNat : Int) < 128 := by omega
          clear HB HX HS
          go_wp2
          go_ret2
          exact ⟨by rw [HF.out]; rfl, rfl⟩
        · have k1' : ¬ ((s[i]'hi).toNat : Int) < 128 := by omega
          by_cases k2 : (s[i]'hi).toNat < 192
          · have k2' : ((s[i]'hi).toNat : Int) < 192 := by omega
            have HY : Hid (more s ((s[0]'h0).toNat - 224) 1 2 = more s (64 * c + (s[i]'hi).toNat - 128) (i + 1) (3 - (i + 1))) := hid (by rw [HX.out, HS.out, if_pos (by omega)])
            have hpow : 64 ^ (i + 1) = 64 ^ i * 64 := by rw [Nat.pow_succ]
            clear HB HX HS
            go_wp2
            go_roundw
            case rel => exact ⟨64 * c + (s[i]'hi).toNat - 128, i + 1, by show Value.int _ _ = _; congr 1; omega, by go_num, by omega, by omega, by omega, trivial, HY⟩
            case measure => simp [intOf]; omega
          · have k2' : ¬ ((s[i]'hi).toNat : Int) < 192 := by omega
            have HF : Hid (runeN s = (0, 0)) := hid (by rw [HB.out, HX.out, HS.out, if_neg (by omega)])
            clear HB HX HS
            go_wp2
            go_ret2
            exact ⟨by rw [HF.out]; rfl, rfl⟩
      · obtain rfl : i = 3 := by omega
        have HT : Hid (runeN s = lastS 2048 c 3) := hid (by rw [HB.out, HX.out]; rfl)
        clear HB HX hp hp4
        rcases (by omega : c < 2048 ∨ (2048 ≤ c ∧ 1114111 < c) ∨ (2048 ≤ c ∧ c ≤ 1114111 ∧ c < 55296) ∨ (2048 ≤ c ∧ c ≤ 1114111 ∧ 55296 ≤ c ∧ c < 57344) ∨ (2048 ≤ c ∧ c ≤ 1114111 ∧ 57344 ≤ c)) with q | q | q | q | q
        · have HF : Hid (runeN s = (0, 0)) := hid (by rw [HT.out]; unfold lastS; rw [if_pos (by omega)])
          have q1 : (c : Int) < 2048 := by omega
          go_wp2
          go_ret2
          exact ⟨by rw [HF.out]; rfl, rfl⟩
        · have HF : Hid (runeN s = (0, 0)) := hid (by rw [HT.out]; unfold lastS; rw [if_pos (by omega)])
          have q1 : ¬ (c : Int) < 2048 := by omega
          have q2 : (1114111 : Int) < c := by omega
          go_wp2
          go_ret2
          exact ⟨by rw [HF.out]; rfl, rfl⟩
        · have HF : Hid (runeN s = (c, 3)) := hid (by rw [HT.out]; unfold lastS; rw [if_neg (by omega)])
          have q1 : ¬ (c : Int) < 2048 := by omega
          have q2 : ¬ (1114111 : Int) < c := by omega
          have q3 : ¬ (55296 : Int) ≤ c := by omega
          go_wp2
          go_ret2
          exact ⟨by rw [HF.out]; rfl, rfl⟩
        · have HF : Hid (runeN s = (0, 0)) := hid (by rw [HT.out]; unfold lastS; rw [if_pos (by omega)])
          have q1 : ¬ (c : Int) < 2048 := by omega
          have q2 : ¬ (1114111 : Int) < c := by omega
          have q3 : (55296 : Int) ≤ c := by omega
          have q4 : (c : Int) < 57344 := by omega
          go_wp2
          go_ret2
          exact ⟨by rw [HF.out]; rfl, rfl⟩
        · have HF : Hid (runeN s = (c, 3)) := hid (by rw [HT.out]; unfold lastS; rw [if_neg (by omega)])
          have q1 : ¬ (c : Int) < 2048 := by omega
          have q2 : ¬ (1114111 : Int) < c := by omega
          have q3 : (55296 : Int) ≤ c := by omega
          have q4 : ¬ (c : Int) < 57344 := by omega
          go_wp2
          go_ret2
          exact ⟨by rw [HF.out]; rfl, rfl⟩
set_option maxHeartbeats 4000000 in
set_option maxRecDepth 100000 in
theorem Rune_4 (s : ByteArray) (w : World) (hs : s.size ≤ 9223372036854775807) (h0 : 0 < s.size) (HR : Hid (runeN s = if (s[0]'h0).toNat < 128 then ((s[0]'h0).toNat, 1) else
      if (s[0]'h0).toNat < 192 then (0, 0) else
      if (s[0]'h0).toNat < 224 then tailN s 2 ((s[0]'h0).toNat - 192) 128 else
      if (s[0]'h0).toNat < 240 then tailN s 3 ((s[0]'h0).toNat - 224) 2048 else
      if (s[0]'h0).toNat < 248 then tailN s 4 ((s[0]'h0).toNat - 240) 65536 else (0, 0))) (a1 : ¬ (s[0]'h0).toNat < 128) (a2 : ¬ (s[0]'h0).toNat < 192) (a3 : ¬ (s[0]'h0).toNat < 224) (a4 : ¬ (s[0]'h0).toNat < 240) (a5 : (s[0]'h0).toNat < 248) :
    Calls Tryd.prog 84 #[.string s] w fun e w' => e = .returned (.tuple #[.int .i64 (runeN s).1, .int .i64 (runeN s).2]) ∧ w' = w := by
  have hz : ((s.size : Int) == 0) = false := by rw [beq_eq_false_iff_ne]; omega
  have HA : Hid (runeN s = tailN s 4 ((s[0]'h0).toNat - 240) 65536) := hid (by rw [HR.out, if_neg a1, if_neg a2, if_neg a3, if_neg a4, if_pos a5])
  have f40 : ¬ ((s[0]'h0).toNat : Int) < 128 := by omega
  have f4192 : (192 : Int) ≤ (s[0]'h0).toNat := by omega
  have f4n224 : ¬ ((s[0]'h0).toNat : Int) < 224 := by omega
  have f4224 : (224 : Int) ≤ (s[0]'h0).toNat := by omega
  have f4n240 : ¬ ((s[0]'h0).toNat : Int) < 240 := by omega
  have f4240 : (240 : Int) ≤ (s[0]'h0).toNat := by omega
  have f4h : ((s[0]'h0).toNat : Int) < 248 := by omega
  by_cases hn : s.size < 4
  · have HF : Hid (runeN s = (0, 0)) := hid (by rw [HA.out]; unfold tailN; rw [if_pos hn])
    have hn' : (s.size : Int) < 4 := by omega
    clear HA HR
    go_enter Tryd.func84, Tryd.ntmps84
    go_wp2
    go_ret2
    exact ⟨by rw [HF.out]; rfl, rfl⟩
  · have HB : Hid (runeN s = match more s ((s[0]'h0).toNat - 240) 1 3 with | none => (0, 0) | some c => lastS 65536 c 4) := hid (by rw [HA.out]; unfold tailN; rw [if_neg hn]; rfl)
    have hn' : ¬ (s.size : Int) < 4 := by omega
    clear HA HR
    go_enter Tryd.func84, Tryd.ntmps84
    go_wp2
    go_loopw [4, 7] (fun cv iv wr => ∃ (c i : Nat), cv = .int .i64 c ∧ iv = .int .i64 i ∧ 1 ≤ i ∧ i ≤ 4 ∧ c + 1 ≤ 64 ^ i ∧ wr = w ∧ Hid (more s ((s[0]'h0).toNat - 240) 1 3 = more s c i (4 - i))) (fun _ iv _ => 4 - (intOf iv).toNat)
    case atStart => exact ⟨(s[0]'h0).toNat - 240, 1, by show Value.int _ _ = _; congr 1; omega, rfl, by omega, by omega, by omega, rfl, hid rfl⟩
    case round =>
      obtain ⟨c, i, rfl, rfl, hi1, hi2, hc, rfl, HX⟩ := hrel
      have hp : 64 ^ i ≤ 64 ^ 4 := Nat.pow_le_pow_right (by decide) (by omega)
      have hp4 : 64 ^ 4 = 16777216 := by decide
      have hcz : c < 16777216 := by omega
      by_cases hlt : i < 4
      · have hi : i < s.size := by omega
        have hgi := at_get s i hi
        have HS : Hid (more s c i (4 - i) = if 128 ≤ (s[i]'hi).toNat ∧ (s[i]'hi).toNat < 192 then more s (64 * c + (s[i]'hi).toNat - 128) (i + 1) (4 - (i + 1)) else none) := hid (by rw [show 4 - i = (4 - (i + 1)) + 1 by omega, more, hgi])
        have hb := (s[i]'hi).toNat_lt
        by_cases k1 : (s[i]'hi).toNat < 128
        · have HF : Hid (runeN s = (0, 0)) := hid (by rw [HB.out, HX.out, HS.out, if_neg (by omega)])
          have k1' : ((s[i]'hi).toNat : Int) < 128 := by omega
          clear HB HX HS
          go_wp2
          go_ret2
          exact ⟨by rw [HF.out]; rfl, rfl⟩
        · have k1' : ¬ ((s[i]'hi).toNat : Int) < 128 := by omega
          by_cases k2 : (s[i]'hi).toNat < 192
          · have k2' : ((s[i]'hi).toNat : Int) < 192 := by omega
            have HY : Hid (more s ((s[0]'h0).toNat - 240) 1 3 = more s (64 * c + (s[i]'hi).toNat - 128) (i + 1) (4 - (i + 1))) := hid (by rw [HX.out, HS.out, if_pos (by omega)])
            have hpow : 64 ^ (i + 1) = 64 ^ i * 64 := by rw [Nat.pow_succ]
            clear HB HX HS
            go_wp2
            go_roundw
            case rel => exact ⟨64 * c + (s[i]'hi).toNat - 128, i + 1, by show Value.int _ _ = _; congr 1; omega, by go_num, by omega, by omega, by omega, trivial, HY⟩
            case measure => simp [intOf]; omega
          · have k2' : ¬ ((s[i]'hi).toNat : Int) < 192 := by omega
            have HF : Hid (runeN s = (0, 0)) := hid (by rw [HB.out, HX.out, HS.out, if_neg (by omega)])
            clear HB HX HS
            go_wp2
            go_ret2
            exact ⟨by rw [HF.out]; rfl, rfl⟩
      · obtain rfl : i = 4 := by omega
        have HT : Hid (runeN s = lastS 65536 c 4) := hid (by rw [HB.out, HX.out]; rfl)
        clear HB HX hp hp4
        rcases (by omega : c < 65536 ∨ (65536 ≤ c ∧ 1114111 < c) ∨ (65536 ≤ c ∧ c ≤ 1114111 ∧ c < 55296) ∨ (65536 ≤ c ∧ c ≤ 1114111 ∧ 55296 ≤ c ∧ c < 57344) ∨ (65536 ≤ c ∧ c ≤ 1114111 ∧ 57344 ≤ c)) with q | q | q | q | q
        · have HF : Hid (runeN s = (0, 0)) := hid (by rw [HT.out]; unfold lastS; rw [if_pos (by omega)])
          have q1 : (c : Int) < 65536 := by omega
          go_wp2
          go_ret2
          exact ⟨by rw [HF.out]; rfl, rfl⟩
        · have HF : Hid (runeN s = (0, 0)) := hid (by rw [HT.out]; unfold lastS; rw [if_pos (by omega)])
          have q1 : ¬ (c : Int) < 65536 := by omega
          have q2 : (1114111 : Int) < c := by omega
          go_wp2
          go_ret2
          exact ⟨by rw [HF.out]; rfl, rfl⟩
        · have HF : Hid (runeN s = (c, 4)) := hid (by rw [HT.out]; unfold lastS; rw [if_neg (by omega)])
          have q1 : ¬ (c : Int) < 65536 := by omega
          have q2 : ¬ (1114111 : Int) < c := by omega
          have q3 : ¬ (55296 : Int) ≤ c := by omega
          go_wp2
          go_ret2
          exact ⟨by rw [HF.out]; rfl, rfl⟩
        · have HF : Hid (runeN s = (0, 0)) := hid (by rw [HT.out]; unfold lastS; rw [if_pos (by omega)])
          have q1 : ¬ (c : Int) < 65536 := by omega
          have q2 : ¬ (1114111 : Int) < c := by omega
          have q3 : (55296 : Int) ≤ c := by omega
          have q4 : (c : Int) < 57344 := by omega
          go_wp2
          go_ret2
          exact ⟨by rw [HF.out]; rfl, rfl⟩
        · have HF : Hid (runeN s = (c, 4)) := hid (by rw [HT.out]; unfold lastS; rw [if_neg (by omega)])
          have q1 : ¬ (c : Int) < 65536 := by omega
          have q2 : ¬ (1114111 : Int) < c := by omega
          have q3 : (55296 : Int) ≤ c := by omega
          have q4 : ¬ (c : Int) < 57344 := by omega
          go_wp2
          go_ret2
          exact ⟨by rw [HF.out]; rfl, rfl⟩
set_option maxHeartbeats 4000000 in
set_option maxRecDepth 100000 in
theorem Rune_is (s : ByteArray) (w : World) (hs : s.size ≤ 9223372036854775807) :
    Calls Tryd.prog 84 #[.string s] w fun e w' => e = .returned (.tuple #[.int .i64 (runeN s).1, .int .i64 (runeN s).2]) ∧ w' = w := by
  by_cases h0 : 0 < s.size
  · have hg := at_get s 0 h0
    have hne : ¬ s.size = 0 := by omega
    have HR : Hid (runeN s = if (s[0]'h0).toNat < 128 then ((s[0]'h0).toNat, 1) else
      if (s[0]'h0).toNat < 192 then (0, 0) else
      if (s[0]'h0).toNat < 224 then tailN s 2 ((s[0]'h0).toNat - 192) 128 else
      if (s[0]'h0).toNat < 240 then tailN s 3 ((s[0]'h0).toNat - 224) 2048 else
      if (s[0]'h0).toNat < 248 then tailN s 4 ((s[0]'h0).toNat - 240) 65536 else (0, 0)) := hid (by unfold runeN; rw [if_neg hne, hg])
    have hz : ((s.size : Int) == 0) = false := by rw [beq_eq_false_iff_ne]; omega
    by_cases a1 : (s[0]'h0).toNat < 128
    · have HA : Hid (runeN s = ((s[0]'h0).toNat, 1)) := hid (by rw [HR.out, if_pos a1])
      have b1 : ((s[0]'h0).toNat : Int) < 128 := by omega
      go_enter Tryd.func84, Tryd.ntmps84
      go_wp2
      go_ret2
      exact ⟨by rw [HA.out]; rfl, rfl⟩
    · have b1 : ¬ ((s[0]'h0).toNat : Int) < 128 := by omega
      by_cases a2 : (s[0]'h0).toNat < 192
      · have HA : Hid (runeN s = (0, 0)) := hid (by rw [HR.out, if_neg a1, if_pos a2])
        have b2 : ((s[0]'h0).toNat : Int) < 192 := by omega
        have b3 : ((s[0]'h0).toNat : Int) < 224 := by omega
        have b4 : ((s[0]'h0).toNat : Int) < 240 := by omega
        go_enter Tryd.func84, Tryd.ntmps84
        go_wp2
        go_ret2
        exact ⟨by rw [HA.out]; rfl, rfl⟩
      · by_cases a3 : (s[0]'h0).toNat < 224
        · exact Rune_2 s w hs h0 HR a1 a2 a3
        · by_cases a4 : (s[0]'h0).toNat < 240
          · exact Rune_3 s w hs h0 HR a1 a2 a3 a4
          · by_cases a5 : (s[0]'h0).toNat < 248
            · exact Rune_4 s w hs h0 HR a1 a2 a3 a4 a5
            · have HA : Hid (runeN s = (0, 0)) := hid (by rw [HR.out, if_neg a1, if_neg a2, if_neg a3, if_neg a4, if_neg a5])
              have b2 : ¬ ((s[0]'h0).toNat : Int) < 248 := by omega
              have b3 : ¬ ((s[0]'h0).toNat : Int) < 224 := by omega
              have b4 : ¬ ((s[0]'h0).toNat : Int) < 240 := by omega
              have b5 : (240 : Int) ≤ (s[0]'h0).toNat := by omega
              have bu : ((s[0]'h0).toNat : Int) < 256 := by have := (s[0]'h0).toNat_lt; omega
              go_enter Tryd.func84, Tryd.ntmps84
              go_wp2
              go_ret2
              exact ⟨by rw [HA.out]; rfl, rfl⟩
  · have hz : s.size = 0 := by omega
    have HA : Hid (runeN s = (0, 0)) := hid (by unfold runeN; rw [if_pos hz])
    go_enter Tryd.func84, Tryd.ntmps84
    go_wp2
    go_ret2
    exact ⟨by rw [HA.out]; rfl, rfl⟩
end Go.Proofs.YtaoeabnpmpimgaaDoor
end
section
namespace Go.Proofs.YtaoeabnpmpimgaaDoor
open Go.RowKit Go.Icz
/-- One step of Good. -/
theorem good_step (l : B8) (h : 0 < l.length) :
    (runeN ⟨l.toArray⟩ = (0, 0) ∧ Lib.validD l = false) ∨
    (1 ≤ (runeN ⟨l.toArray⟩).2 ∧ (runeN ⟨l.toArray⟩).2 ≤ l.length ∧ Lib.validD l = Lib.validD (l.drop (runeN ⟨l.toArray⟩).2)) := by
  have hne : l ≠ [] := List.length_pos_iff.1 h
  have hs : 0 < (⟨l.toArray⟩ : ByteArray).size := by rw [Lib.size_mk]; exact h
  have hv := Lib.validD_step l hne
  have hw := Lib.decodeL_width l
  rcases rune_decode ⟨l.toArray⟩ hs with ⟨h1, h2⟩ | ⟨h1, h2⟩
  · left
    refine ⟨h2, ?_⟩
    rw [hv]
    have e : Lib.decodeL l = (65533, 1) := h1
    rw [e]
    simp
  · right
    have e : Utf8.decode ⟨l.toArray⟩ 0 = Lib.decodeL l := rfl
    rw [h2, e]
    refine ⟨hw, ?_, ?_⟩
    · exact Lib.decodeL_le l hne
    · rw [hv, if_neg]
      rintro ⟨q1, q2⟩
      exact h1 (by rw [e]; exact Prod.ext q1 q2)
set_option maxHeartbeats 1000000 in
set_option maxRecDepth 100000 in
theorem Good_is (l : B8) (w : World) (hs : l.length ≤ 9223372036854775807) :
    Calls Tryd.prog 76 #[.string ⟨l.toArray⟩] w fun e w' => e = .returned (.bool (Lib.validD l)) ∧ w' = w := by
  go_enter Tryd.func76, Tryd.ntmps76
  go_wp2
  go_loopw [0] (fun sv wr => ∃ cur : B8, sv = .string ⟨cur.toArray⟩ ∧ cur.length ≤ l.length ∧ wr = w ∧ Hid (Lib.validD l = Lib.validD cur)) (fun sv _ => match sv with | .string b => b.size | _ => 0)
  case atStart => exact ⟨l, rfl, by omega, rfl, hid rfl⟩
  case round =>
    obtain ⟨cur, rfl, hcl, rfl, HX⟩ := hrel
    have hR := Rune_is ⟨cur.toArray⟩ wr (by rw [Lib.size_mk]; omega)
    by_cases h0 : 0 < cur.length
    · have h0' : (0 : Int) < cur.length := by omega
      rcases good_step cur h0 with ⟨h1, h2⟩ | ⟨h1, h2, h3⟩
      · have HF : Hid (Lib.validD l = false) := hid (by rw [HX.out, h2])
        rw [h1] at hR
        clear HX h2 h1
        go_wp2_with (go_at_call 84; refine hR.mono ?_; rintro e w2 ⟨rfl, rfl⟩; clear hR)
        go_ret
        exact ⟨by rw [HF.out]; rfl, rfl⟩
      · have HY : Hid (Lib.validD l = Lib.validD (cur.drop (runeN ⟨cur.toArray⟩).2)) := hid (by rw [HX.out, h3])
        clear HX h3
        generalize runeN ⟨cur.toArray⟩ = r at *
        obtain ⟨c, n⟩ := r
        simp only [] at h1 h2 hR HY
        have hn0 : ((n : Int) == 0) = false := by rw [beq_eq_false_iff_ne]; omega
        go_wp2_with (go_at_call 84; refine hR.mono ?_; rintro e w2 ⟨rfl, rfl⟩; clear hR)
        have hx : ({ data := List.toArray cur } : ByteArray).extract n cur.length = ⟨(cur.drop n).toArray⟩ := Lib.extract_from ⟨cur.toArray⟩ n
        rw [hx]
        refine ⟨⟨cur.drop n, rfl, by rw [List.length_drop]; omega, trivial, HY⟩, ?_⟩
        show (cur.drop n).length < cur.length
        rw [List.length_drop]
        omega
    · have hc0 : cur = [] := List.eq_nil_of_length_eq_zero (by omega)
      subst hc0
      have HF : Hid (Lib.validD l = true) := hid (by rw [HX.out]; rfl)
      clear HX hR
      go_wp2
      go_ret
      exact ⟨by rw [HF.out]; rfl, rfl⟩
set_option maxHeartbeats 1000000 in
set_option maxRecDepth 100000 in
theorem RefValue_is (l : B8) (w : World) (hs : l.length ≤ 9223372036854775807) :
    Calls Tryd.prog 60 #[.string ⟨l.toArray⟩] w fun e w' => e = .returned (.bool (valueS l)) ∧ w' = w := by
  have hG := Good_is l w hs
  by_cases h1 : 1 ≤ l.length
  · have h1' : (1 : Int) ≤ l.length := by omega
    by_cases h2 : l.length ≤ 128
    · have h2' : (l.length : Int) ≤ 128 := by omega
      have HV : Hid (valueS l = Lib.validD l) := hid (by simp [valueS, h1, h2])
      go_enter Tryd.func60, Tryd.ntmps60
      go_wp2_with (go_at_call 76; refine hG.mono ?_; rintro e w2 ⟨rfl, rfl⟩; clear hG)
      go_ret
      exact ⟨by rw [HV.out]; rfl, rfl⟩
    · have h2' : ¬ (l.length : Int) ≤ 128 := by omega
      have HV : Hid (valueS l = false) := hid (by simp [valueS, h2])
      clear hG
      go_enter Tryd.func60, Tryd.ntmps60
      go_wp2
      go_ret
      exact ⟨by rw [HV.out]; rfl, rfl⟩
  · have h1' : ¬ (1 : Int) ≤ l.length := by omega
    have HV : Hid (valueS l = false) := hid (by simp [valueS, h1])
    clear hG
    go_enter Tryd.func60, Tryd.ntmps60
    go_wp2
    go_ret
    exact ⟨by rw [HV.out]; rfl, rfl⟩
end Go.Proofs.YtaoeabnpmpimgaaDoor
end
