/-
  The reference's Rune as a function of the bytes, and that it agrees with Go's own decoder where that does not err. Conditions: none.
-/
import Derived.Test.YtaoeabnpmpimgaaDoorRefName
namespace Go.Proofs.YtaoeabnpmpimgaaDoor
open Go.RowKit Go.Icz

/-- k further bytes from place i on. -/
def more (s : ByteArray) : Nat → Nat → Nat → Option Nat
  | c, _, 0 => some c
  | c, i, k + 1 => if 128 ≤ (s.get! i).toNat ∧ (s.get! i).toNat < 192 then more s (64 * c + (s.get! i).toNat - 128) (i + 1) k else none
def lastS (least c n : Nat) : Nat × Nat := if c < least ∨ 1114111 < c ∨ (55296 ≤ c ∧ c < 57344) then (0, 0) else (c, n)
def tailN (s : ByteArray) (n c least : Nat) : Nat × Nat :=
  if s.size < n then (0, 0) else match more s c 1 (n - 1) with | none => (0, 0) | some c => lastS least c n
def runeN (s : ByteArray) : Nat × Nat :=
  if s.size = 0 then (0, 0) else
  if (s.get! 0).toNat < 128 then ((s.get! 0).toNat, 1) else
  if (s.get! 0).toNat < 192 then (0, 0) else
  if (s.get! 0).toNat < 224 then tailN s 2 ((s.get! 0).toNat - 192) 128 else
  if (s.get! 0).toNat < 240 then tailN s 3 ((s.get! 0).toNat - 224) 2048 else
  if (s.get! 0).toNat < 248 then tailN s 4 ((s.get! 0).toNat - 240) 65536 else (0, 0)
theorem valid_nat (c : Nat) : Utf8.valid (c : Int) = decide (c < 55296 ∨ (57344 ≤ c ∧ c ≤ 1114111)) := by
  rw [Bool.eq_iff_iff]
  simp [Utf8.valid]
  omega
def decP (n b0 b1 b2 b3 : Nat) : Nat × Nat :=
  if b0 < 128 then (b0, 1)
  else if b0 / 32 = 6 ∧ 1 < n ∧ b1 / 64 = 2 then
    if 128 ≤ b0 % 32 * 64 + b1 % 64 then (b0 % 32 * 64 + b1 % 64, 2) else (65533, 1)
  else if b0 / 16 = 14 ∧ (1 < n ∧ b1 / 64 = 2) ∧ 2 < n ∧ b2 / 64 = 2 then
    if 2048 ≤ b0 % 16 * 4096 + b1 % 64 * 64 + b2 % 64 ∧ (b0 % 16 * 4096 + b1 % 64 * 64 + b2 % 64 < 55296 ∨ (57344 ≤ b0 % 16 * 4096 + b1 % 64 * 64 + b2 % 64 ∧ b0 % 16 * 4096 + b1 % 64 * 64 + b2 % 64 ≤ 1114111)) then
      (b0 % 16 * 4096 + b1 % 64 * 64 + b2 % 64, 3) else (65533, 1)
  else if b0 / 8 = 30 ∧ (1 < n ∧ b1 / 64 = 2) ∧ (2 < n ∧ b2 / 64 = 2) ∧ 3 < n ∧ b3 / 64 = 2 then
    if 65536 ≤ b0 % 8 * 262144 + b1 % 64 * 4096 + b2 % 64 * 64 + b3 % 64 ∧ (b0 % 8 * 262144 + b1 % 64 * 4096 + b2 % 64 * 64 + b3 % 64 < 55296 ∨ (57344 ≤ b0 % 8 * 262144 + b1 % 64 * 4096 + b2 % 64 * 64 + b3 % 64 ∧ b0 % 8 * 262144 + b1 % 64 * 4096 + b2 % 64 * 64 + b3 % 64 ≤ 1114111)) then
      (b0 % 8 * 262144 + b1 % 64 * 4096 + b2 % 64 * 64 + b3 % 64, 4) else (65533, 1)
  else (65533, 1)
def okB (b : Nat) : Prop := 128 ≤ b ∧ b < 192
instance (b : Nat) : Decidable (okB b) := by unfold okB; infer_instance
def runeP (n b0 b1 b2 b3 : Nat) : Nat × Nat :=
  if b0 < 128 then (b0, 1)
  else if b0 < 192 then (0, 0)
  else if b0 < 224 then if n < 2 then (0, 0) else if okB b1 then lastS 128 (64 * (b0 - 192) + b1 - 128) 2 else (0, 0)
  else if b0 < 240 then if n < 3 then (0, 0) else if okB b1 then if okB b2 then lastS 2048 (64 * (64 * (b0 - 224) + b1 - 128) + b2 - 128) 3 else (0, 0) else (0, 0)
  else if b0 < 248 then if n < 4 then (0, 0) else if okB b1 then if okB b2 then if okB b3 then lastS 65536 (64 * (64 * (64 * (b0 - 240) + b1 - 128) + b2 - 128) + b3 - 128) 4 else (0, 0) else (0, 0) else (0, 0)
  else (0, 0)
theorem dec_P (s : ByteArray) : Utf8.decode s 0 = decP s.size (s.get! 0).toNat (s.get! 1).toNat (s.get! 2).toNat (s.get! 3).toNat := by
  unfold Utf8.decode decP
  simp only [Nat.zero_add, Bool.and_eq_true, decide_eq_true_eq, beq_iff_eq, ge_iff_le, valid_nat, Utf8.runeError, and_assoc]
theorem more_step (s : ByteArray) (c i k : Nat) : more s c i (k + 1) = if okB (s.get! i).toNat then more s (64 * c + (s.get! i).toNat - 128) (i + 1) k else none := rfl
theorem tail2 (s : ByteArray) (c least : Nat) : tailN s 2 c least = if s.size < 2 then (0, 0) else if okB (s.get! 1).toNat then lastS least (64 * c + (s.get! 1).toNat - 128) 2 else (0, 0) := by
  unfold tailN
  split
  · rfl
  · rw [show (2 : Nat) - 1 = 0 + 1 from rfl, more_step]
    by_cases k1 : okB (s.get! 1).toNat
    · rw [if_pos k1, if_pos k1]; rfl
    · rw [if_neg k1, if_neg k1]
theorem tail3 (s : ByteArray) (c least : Nat) : tailN s 3 c least = if s.size < 3 then (0, 0) else if okB (s.get! 1).toNat then if okB (s.get! 2).toNat then lastS least (64 * (64 * c + (s.get! 1).toNat - 128) + (s.get! 2).toNat - 128) 3 else (0, 0) else (0, 0) := by
  unfold tailN
  split
  · rfl
  · rw [show (3 : Nat) - 1 = 1 + 1 from rfl, more_step, show (1 : Nat) = 0 + 1 from rfl, more_step]
    by_cases k1 : okB (s.get! (0 + 1)).toNat
    · rw [if_pos k1, if_pos k1]
      by_cases k2 : okB (s.get! (0 + 1 + 1)).toNat
      · rw [if_pos k2, if_pos k2]; rfl
      · rw [if_neg k2, if_neg k2]
    · rw [if_neg k1, if_neg k1]
theorem tail4 (s : ByteArray) (c least : Nat) : tailN s 4 c least = if s.size < 4 then (0, 0) else if okB (s.get! 1).toNat then if okB (s.get! 2).toNat then if okB (s.get! 3).toNat then lastS least (64 * (64 * (64 * c + (s.get! 1).toNat - 128) + (s.get! 2).toNat - 128) + (s.get! 3).toNat - 128) 4 else (0, 0) else (0, 0) else (0, 0) := by
  unfold tailN
  split
  · rfl
  · by_cases k1 : okB (s.get! 1).toNat
    · by_cases k2 : okB (s.get! 2).toNat
      · by_cases k3 : okB (s.get! 3).toNat
        · have e : more s c 1 (4 - 1) = some (64 * (64 * (64 * c + (s.get! 1).toNat - 128) + (s.get! 2).toNat - 128) + (s.get! 3).toNat - 128) := by
            show more s c 1 (2 + 1) = _
            rw [more_step, if_pos k1]
            show more s _ 2 (1 + 1) = _
            rw [more_step, if_pos k2]
            show more s _ 3 (0 + 1) = _
            rw [more_step, if_pos k3]
            rfl
          rw [e, if_pos k1, if_pos k2, if_pos k3]
        · have e : more s c 1 (4 - 1) = none := by
            show more s c 1 (2 + 1) = _
            rw [more_step, if_pos k1]
            show more s _ 2 (1 + 1) = _
            rw [more_step, if_pos k2]
            show more s _ 3 (0 + 1) = _
            rw [more_step, if_neg k3]
          rw [e, if_pos k1, if_pos k2, if_neg k3]
      · have e : more s c 1 (4 - 1) = none := by
          show more s c 1 (2 + 1) = _
          rw [more_step, if_pos k1]
          show more s _ 2 (1 + 1) = _
          rw [more_step, if_neg k2]
        rw [e, if_pos k1, if_neg k2]
    · have e : more s c 1 (4 - 1) = none := by
        show more s c 1 (2 + 1) = _
        rw [more_step, if_neg k1]
      rw [e, if_neg k1]
theorem rune_P (s : ByteArray) (h : 0 < s.size) : runeN s = runeP s.size (s.get! 0).toNat (s.get! 1).toNat (s.get! 2).toNat (s.get! 3).toNat := by
  unfold runeN runeP
  rw [if_neg (by omega), tail2, tail3, tail4]
theorem last_cases (least c n : Nat) : (lastS least c n = (0, 0) ∧ (c < least ∨ 1114111 < c ∨ (55296 ≤ c ∧ c < 57344))) ∨ (lastS least c n = (c, n) ∧ ¬ (c < least ∨ 1114111 < c ∨ (55296 ≤ c ∧ c < 57344))) := by
  unfold lastS
  split
  · exact .inl ⟨rfl, by assumption⟩
  · exact .inr ⟨rfl, by assumption⟩
def Agree (n b0 b1 b2 b3 : Nat) : Prop := (decP n b0 b1 b2 b3 = (65533, 1) ∧ runeP n b0 b1 b2 b3 = (0, 0)) ∨ (¬ decP n b0 b1 b2 b3 = (65533, 1) ∧ runeP n b0 b1 b2 b3 = decP n b0 b1 b2 b3)
theorem Agree.bad {n b0 b1 b2 b3 : Nat} (hd : decP n b0 b1 b2 b3 = (65533, 1)) (hr : runeP n b0 b1 b2 b3 = (0, 0)) : Agree n b0 b1 b2 b3 := .inl ⟨hd, hr⟩
theorem Agree.good {n b0 b1 b2 b3 c k : Nat} (hk : 2 ≤ k) (hd : decP n b0 b1 b2 b3 = (c, k)) (hr : runeP n b0 b1 b2 b3 = (c, k)) : Agree n b0 b1 b2 b3 := .inr ⟨by rw [hd]; intro e; injection e; omega, by rw [hd, hr]⟩
theorem pure2 (n b0 b1 b2 b3 : Nat) (a2 : ¬ b0 < 192) (a3 : b0 < 224) (h1 : b1 < 256) : Agree n b0 b1 b2 b3 := by
  have hR : ∀ r, (if n < 2 then (0, 0) else if okB b1 then lastS 128 (64 * (b0 - 192) + b1 - 128) 2 else (0, 0)) = r → runeP n b0 b1 b2 b3 = r := fun r h => by unfold runeP; rw [if_neg (by omega), if_neg a2, if_pos a3]; exact h
  have hD0 : ¬ (1 < n ∧ b1 / 64 = 2) → decP n b0 b1 b2 b3 = (65533, 1) := fun h => by unfold decP; rw [if_neg (by omega), if_neg (by omega), if_neg (by omega), if_neg (by omega)]
  have hD : ∀ r, 1 < n ∧ b1 / 64 = 2 → (if 128 ≤ b0 % 32 * 64 + b1 % 64 then (b0 % 32 * 64 + b1 % 64, 2) else (65533, 1)) = r → decP n b0 b1 b2 b3 = r := fun r h e => by unfold decP; rw [if_neg (by omega), if_pos (by omega)]; exact e
  by_cases hn : n < 2
  · exact Agree.bad (hD0 (by omega)) (hR _ (by rw [if_pos hn]))
  · by_cases k1 : okB b1
    · have k1' := k1
      unfold okB at k1'
      have e : 64 * (b0 - 192) + b1 - 128 = b0 % 32 * 64 + b1 % 64 := by omega
      rw [e] at hR
      rcases last_cases 128 (b0 % 32 * 64 + b1 % 64) 2 with ⟨h, q⟩ | ⟨h, q⟩
      · exact Agree.bad (hD _ (by omega) (by rw [if_neg (by omega)])) (hR _ (by rw [if_neg hn, if_pos k1, h]))
      · exact Agree.good (c := b0 % 32 * 64 + b1 % 64) (k := 2) (by omega) (hD _ (by omega) (by rw [if_pos (by omega)])) (hR _ (by rw [if_neg hn, if_pos k1, h]))
    · have k1' := k1
      unfold okB at k1'
      exact Agree.bad (hD0 (by omega)) (hR _ (by rw [if_neg hn, if_neg k1]))
theorem pure3 (n b0 b1 b2 b3 : Nat) (a2 : ¬ b0 < 224) (a3 : b0 < 240) (h1 : b1 < 256) (h2 : b2 < 256) : Agree n b0 b1 b2 b3 := by
  have hR : ∀ r, (if n < 3 then (0, 0) else if okB b1 then if okB b2 then lastS 2048 (64 * (64 * (b0 - 224) + b1 - 128) + b2 - 128) 3 else (0, 0) else (0, 0)) = r → runeP n b0 b1 b2 b3 = r := fun r h => by unfold runeP; rw [if_neg (by omega), if_neg (by omega), if_neg a2, if_pos a3]; exact h
  have hD0 : ¬ (2 < n ∧ b1 / 64 = 2 ∧ b2 / 64 = 2) → decP n b0 b1 b2 b3 = (65533, 1) := fun h => by unfold decP; rw [if_neg (by omega), if_neg (by omega), if_neg (by omega), if_neg (by omega)]
  have hD : ∀ r, (2 < n ∧ b1 / 64 = 2 ∧ b2 / 64 = 2) → (if 2048 ≤ b0 % 16 * 4096 + b1 % 64 * 64 + b2 % 64 ∧ (b0 % 16 * 4096 + b1 % 64 * 64 + b2 % 64 < 55296 ∨ (57344 ≤ b0 % 16 * 4096 + b1 % 64 * 64 + b2 % 64 ∧ b0 % 16 * 4096 + b1 % 64 * 64 + b2 % 64 ≤ 1114111)) then
      (b0 % 16 * 4096 + b1 % 64 * 64 + b2 % 64, 3) else (65533, 1)) = r → decP n b0 b1 b2 b3 = r := fun r h e => by unfold decP; rw [if_neg (by omega), if_neg (by omega), if_pos (by omega)]; exact e
  by_cases hn : n < 3
  · exact Agree.bad (hD0 (by omega)) (hR _ (by rw [if_pos hn]))
  · by_cases k1 : okB b1
    · by_cases k2 : okB b2
      · have k1' := k1
        have k2' := k2
        unfold okB at k1' k2'
        have e : 64 * (64 * (b0 - 224) + b1 - 128) + b2 - 128 = b0 % 16 * 4096 + b1 % 64 * 64 + b2 % 64 := by omega
        rw [e] at hR
        have hg : 2 < n ∧ b1 / 64 = 2 ∧ b2 / 64 = 2 := by omega
        generalize b0 % 16 * 4096 + b1 % 64 * 64 + b2 % 64 = c at *
        rcases last_cases 2048 c 3 with ⟨h, q⟩ | ⟨h, q⟩
        · exact Agree.bad (hD _ hg (by rw [if_neg (by omega)])) (hR _ (by rw [if_neg hn, if_pos k1, if_pos k2, h]))
        · exact Agree.good (c := c) (k := 3) (by omega) (hD _ hg (by rw [if_pos (by omega)])) (hR _ (by rw [if_neg hn, if_pos k1, if_pos k2, h]))
      · have k2' := k2
        unfold okB at k2'
        exact Agree.bad (hD0 (by omega)) (hR _ (by rw [if_neg hn, if_pos k1, if_neg k2]))
    · have k1' := k1
      unfold okB at k1'
      exact Agree.bad (hD0 (by omega)) (hR _ (by rw [if_neg hn, if_neg k1]))
theorem pure4 (n b0 b1 b2 b3 : Nat) (a2 : ¬ b0 < 240) (a3 : b0 < 248) (h1 : b1 < 256) (h2 : b2 < 256) (h3 : b3 < 256) : Agree n b0 b1 b2 b3 := by
  have hR : ∀ r, (if n < 4 then (0, 0) else if okB b1 then if okB b2 then if okB b3 then lastS 65536 (64 * (64 * (64 * (b0 - 240) + b1 - 128) + b2 - 128) + b3 - 128) 4 else (0, 0) else (0, 0) else (0, 0)) = r → runeP n b0 b1 b2 b3 = r := fun r h => by unfold runeP; rw [if_neg (by omega), if_neg (by omega), if_neg (by omega), if_neg a2, if_pos a3]; exact h
  have hD0 : ¬ (3 < n ∧ b1 / 64 = 2 ∧ b2 / 64 = 2 ∧ b3 / 64 = 2) → decP n b0 b1 b2 b3 = (65533, 1) := fun h => by unfold decP; rw [if_neg (by omega), if_neg (by omega), if_neg (by omega), if_neg (by omega)]
  have hD : ∀ r, (3 < n ∧ b1 / 64 = 2 ∧ b2 / 64 = 2 ∧ b3 / 64 = 2) → (if 65536 ≤ b0 % 8 * 262144 + b1 % 64 * 4096 + b2 % 64 * 64 + b3 % 64 ∧ (b0 % 8 * 262144 + b1 % 64 * 4096 + b2 % 64 * 64 + b3 % 64 < 55296 ∨ (57344 ≤ b0 % 8 * 262144 + b1 % 64 * 4096 + b2 % 64 * 64 + b3 % 64 ∧ b0 % 8 * 262144 + b1 % 64 * 4096 + b2 % 64 * 64 + b3 % 64 ≤ 1114111)) then
      (b0 % 8 * 262144 + b1 % 64 * 4096 + b2 % 64 * 64 + b3 % 64, 4) else (65533, 1)) = r → decP n b0 b1 b2 b3 = r := fun r h e => by unfold decP; rw [if_neg (by omega), if_neg (by omega), if_neg (by omega), if_pos (by omega)]; exact e
  by_cases hn : n < 4
  · exact Agree.bad (hD0 (by omega)) (hR _ (by rw [if_pos hn]))
  · by_cases k1 : okB b1
    · by_cases k2 : okB b2
      · by_cases k3 : okB b3
        · have k1' := k1
          have k2' := k2
          have k3' := k3
          unfold okB at k1' k2' k3'
          have e : 64 * (64 * (64 * (b0 - 240) + b1 - 128) + b2 - 128) + b3 - 128 = b0 % 8 * 262144 + b1 % 64 * 4096 + b2 % 64 * 64 + b3 % 64 := by omega
          rw [e] at hR
          have hg : 3 < n ∧ b1 / 64 = 2 ∧ b2 / 64 = 2 ∧ b3 / 64 = 2 := by omega
          generalize b0 % 8 * 262144 + b1 % 64 * 4096 + b2 % 64 * 64 + b3 % 64 = c at *
          rcases last_cases 65536 c 4 with ⟨h, q⟩ | ⟨h, q⟩
          · exact Agree.bad (hD _ hg (by rw [if_neg (by omega)])) (hR _ (by rw [if_neg hn, if_pos k1, if_pos k2, if_pos k3, h]))
          · exact Agree.good (c := c) (k := 4) (by omega) (hD _ hg (by rw [if_pos (by omega)])) (hR _ (by rw [if_neg hn, if_pos k1, if_pos k2, if_pos k3, h]))
        · have k3' := k3
          unfold okB at k3'
          exact Agree.bad (hD0 (by omega)) (hR _ (by rw [if_neg hn, if_pos k1, if_pos k2, if_neg k3]))
      · have k2' := k2
        unfold okB at k2'
        exact Agree.bad (hD0 (by omega)) (hR _ (by rw [if_neg hn, if_pos k1, if_neg k2]))
    · have k1' := k1
      unfold okB at k1'
      exact Agree.bad (hD0 (by omega)) (hR _ (by rw [if_neg hn, if_neg k1]))
/-- What Rune answers is what Go's own decoder answers, where that does not err. -/
theorem rune_decode (s : ByteArray) (h : 0 < s.size) : (Utf8.decode s 0 = (65533, 1) ∧ runeN s = (0, 0)) ∨ (¬ Utf8.decode s 0 = (65533, 1) ∧ runeN s = Utf8.decode s 0) := by
  have h1 := (s.get! 1).toNat_lt
  have h2 := (s.get! 2).toNat_lt
  have h3 := (s.get! 3).toNat_lt
  rw [dec_P, rune_P s h]
  show Agree _ _ _ _ _
  by_cases a1 : (s.get! 0).toNat < 128
  · right
    unfold decP runeP
    rw [if_pos a1, if_pos a1]
    exact ⟨fun e => by simp at e; omega, rfl⟩
  · by_cases a2 : (s.get! 0).toNat < 192
    · exact Agree.bad (by unfold decP; rw [if_neg a1, if_neg (by omega), if_neg (by omega), if_neg (by omega)]) (by unfold runeP; rw [if_neg a1, if_pos a2])
    · by_cases a3 : (s.get! 0).toNat < 224
      · exact pure2 _ _ _ _ _ a2 a3 h1
      · by_cases a4 : (s.get! 0).toNat < 240
        · exact pure3 _ _ _ _ _ a3 a4 h1 h2
        · by_cases a5 : (s.get! 0).toNat < 248
          · exact pure4 _ _ _ _ _ a4 a5 h1 h2 h3
          · exact Agree.bad (by unfold decP; rw [if_neg a1, if_neg (by omega), if_neg (by omega), if_neg (by omega)]) (by unfold runeP; rw [if_neg a1, if_neg a2, if_neg a3, if_neg a4, if_neg a5])
end Go.Proofs.YtaoeabnpmpimgaaDoor
