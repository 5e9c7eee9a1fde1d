/-
  What the reference's Rune answers. Conditions: lengths that Go's int holds.
-/
import Derived.Test.YtaoeabnpmpimgaaDoorRuneDec
namespace Go.Proofs.YtaoeabnpmpimgaaDoor
open Go.RowKit Go.Icz

theorem at_get (s : ByteArray) (i : Nat) (h : i < s.size) : s.get! i = s[i]'h := by
  simp [ByteArray.get!, getElem!_pos, h]
  rfl
set_option maxHeartbeats 4000000 in
set_option maxRecDepth 100000 in
theorem Rune_2 (s : ByteArray) (w : World) (hs : s.size ≤ 9223372036854775807) (h0 : 0 < s.size) (HR : Hid (runeN s = if (s[0]'h0).toNat < 128 then ((s[0]'h0).toNat, 1) else
      if (s[0]'h0).toNat < 192 then (0, 0) else
      if (s[0]'h0).toNat < 224 then tailN s 2 ((s[0]'h0).toNat - 192) 128 else
      if (s[0]'h0).toNat < 240 then tailN s 3 ((s[0]'h0).toNat - 224) 2048 else
      if (s[0]'h0).toNat < 248 then tailN s 4 ((s[0]'h0).toNat - 240) 65536 else (0, 0))) (a1 : ¬ (s[0]'h0).toNat < 128) (a2 : ¬ (s[0]'h0).toNat < 192) (a3 : (s[0]'h0).toNat < 224) :
    Calls Tryd.prog 84 #[.string s] w fun e w' => e = .returned (.tuple #[.int .i64 (runeN s).1, .int .i64 (runeN s).2]) ∧ w' = w := by
  have hz : ((s.size : Int) == 0) = false := by rw [beq_eq_false_iff_ne]; omega
  have HA : Hid (runeN s = tailN s 2 ((s[0]'h0).toNat - 192) 128) := hid (by rw [HR.out, if_neg a1, if_neg a2, if_pos a3])
  have f20 : ¬ ((s[0]'h0).toNat : Int) < 128 := by omega
  have f2192 : (192 : Int) ≤ (s[0]'h0).toNat := by omega
  have f2h : ((s[0]'h0).toNat : Int) < 224 := by omega
  by_cases hn : s.size < 2
  · have HF : Hid (runeN s = (0, 0)) := hid (by rw [HA.out]; unfold tailN; rw [if_pos hn])
    have hn' : (s.size : Int) < 2 := by omega
    clear HA HR
    go_enter Tryd.func84, Tryd.ntmps84
    go_wp2
    go_ret2
    exact ⟨by rw [HF.out]; rfl, rfl⟩
  · have HB : Hid (runeN s = match more s ((s[0]'h0).toNat - 192) 1 1 with | none => (0, 0) | some c => lastS 128 c 2) := hid (by rw [HA.out]; unfold tailN; rw [if_neg hn]; rfl)
    have hn' : ¬ (s.size : Int) < 2 := by omega
    clear HA HR
    go_enter Tryd.func84, Tryd.ntmps84
    go_wp2
    go_loopw [4, 7] (fun cv iv wr => ∃ (c i : Nat), cv = .int .i64 c ∧ iv = .int .i64 i ∧ 1 ≤ i ∧ i ≤ 2 ∧ c + 1 ≤ 64 ^ i ∧ wr = w ∧ Hid (more s ((s[0]'h0).toNat - 192) 1 1 = more s c i (2 - i))) (fun _ iv _ => 2 - (intOf iv).toNat)
    case atStart => exact ⟨(s[0]'h0).toNat - 192, 1, by show Value.int _ _ = _; congr 1; omega, rfl, by omega, by omega, by omega, rfl, hid rfl⟩
    case round =>
      obtain ⟨c, i, rfl, rfl, hi1, hi2, hc, rfl, HX⟩ := hrel
      have hp : 64 ^ i ≤ 64 ^ 4 := Nat.pow_le_pow_right (by decide) (by omega)
      have hp4 : 64 ^ 4 = 16777216 := by decide
      have hcz : c < 16777216 := by omega
      by_cases hlt : i < 2
      · have hi : i < s.size := by omega
        have hgi := at_get s i hi
        have HS : Hid (more s c i (2 - i) = if 128 ≤ (s[i]'hi).toNat ∧ (s[i]'hi).toNat < 192 then more s (64 * c + (s[i]'hi).toNat - 128) (i + 1) (2 - (i + 1)) else none) := hid (by rw [show 2 - i = (2 - (i + 1)) + 1 by omega, more, hgi])
        have hb := (s[i]'hi).toNat_lt
        by_cases k1 : (s[i]'hi).toNat < 128
        · have HF : Hid (runeN s = (0, 0)) := hid (by rw [HB.out, HX.out, HS.out, if_neg (by omega)])
          have k1' : ((s[i]'hi).toNat : Int) < 128 := by omega
          clear HB HX HS
          go_wp2
          go_ret2
          exact ⟨by rw [HF.out]; rfl, rfl⟩
        · have k1' : ¬ ((s[i]'hi).toNat : Int) < 128 := by omega
          by_cases k2 : (s[i]'hi).toNat < 192
          · have k2' : ((s[i]'hi).toNat : Int) < 192 := by omega
            have HY : Hid (more s ((s[0]'h0).toNat - 192) 1 1 = more s (64 * c + (s[i]'hi).toNat - 128) (i + 1) (2 - (i + 1))) := hid (by rw [HX.out, HS.out, if_pos (by omega)])
            have hpow : 64 ^ (i + 1) = 64 ^ i * 64 := by rw [Nat.pow_succ]
            clear HB HX HS
            go_wp2
            go_roundw
            case rel => exact ⟨64 * c + (s[i]'hi).toNat - 128, i + 1, by show Value.int _ _ = _; congr 1; omega, by go_num, by omega, by omega, by omega, trivial, HY⟩
            case measure => simp [intOf]; omega
          · have k2' : ¬ ((s[i]'hi).toNat : Int) < 192 := by omega
            have HF : Hid (runeN s = (0, 0)) := hid (by rw [HB.out, HX.out, HS.out, if_neg (by omega)])
            clear HB HX HS
            go_wp2
            go_ret2
            exact ⟨by rw [HF.out]; rfl, rfl⟩
      · obtain rfl : i = 2 := by omega
        have HT : Hid (runeN s = lastS 128 c 2) := hid (by rw [HB.out, HX.out]; rfl)
        clear HB HX hp hp4
        rcases (by omega : c < 128 ∨ (128 ≤ c ∧ 1114111 < c) ∨ (128 ≤ c ∧ c ≤ 1114111 ∧ c < 55296) ∨ (128 ≤ c ∧ c ≤ 1114111 ∧ 55296 ≤ c ∧ c < 57344) ∨ (128 ≤ c ∧ c ≤ 1114111 ∧ 57344 ≤ c)) with q | q | q | q | q
        · have HF : Hid (runeN s = (0, 0)) := hid (by rw [HT.out]; unfold lastS; rw [if_pos (by omega)])
          have q1 : (c : Int) < 128 := by omega
          go_wp2
          go_ret2
          exact ⟨by rw [HF.out]; rfl, rfl⟩
        · have HF : Hid (runeN s = (0, 0)) := hid (by rw [HT.out]; unfold lastS; rw [if_pos (by omega)])
          have q1 : ¬ (c : Int) < 128 := by omega
          have q2 : (1114111 : Int) < c := by omega
          go_wp2
          go_ret2
          exact ⟨by rw [HF.out]; rfl, rfl⟩
        · have HF : Hid (runeN s = (c, 2)) := hid (by rw [HT.out]; unfold lastS; rw [if_neg (by omega)])
          have q1 : ¬ (c : Int) < 128 := by omega
          have q2 : ¬ (1114111 : Int) < c := by omega
          have q3 : ¬ (55296 : Int) ≤ c := by omega
          go_wp2
          go_ret2
          exact ⟨by rw [HF.out]; rfl, rfl⟩
        · have HF : Hid (runeN s = (0, 0)) := hid (by rw [HT.out]; unfold lastS; rw [if_pos (by omega)])
          have q1 : ¬ (c : Int) < 128 := by omega
          have q2 : ¬ (1114111 : Int) < c := by omega
          have q3 : (55296 : Int) ≤ c := by omega
          have q4 : (c : Int) < 57344 := by omega
          go_wp2
          go_ret2
          exact ⟨by rw [HF.out]; rfl, rfl⟩
        · have HF : Hid (runeN s = (c, 2)) := hid (by rw [HT.out]; unfold lastS; rw [if_neg (by omega)])
          have q1 : ¬ (c : Int) < 128 := by omega
          have q2 : ¬ (1114111 : Int) < c := by omega
          have q3 : (55296 : Int) ≤ c := by omega
          have q4 : ¬ (c : Int) < 57344 := by omega
          go_wp2
          go_ret2
          exact ⟨by rw [HF.out]; rfl, rfl⟩
set_option maxHeartbeats 4000000 in
set_option maxRecDepth 100000 in
theorem Rune_3 (s : ByteArray) (w : World) (hs : s.size ≤ 9223372036854775807) (h0 : 0 < s.size) (HR : Hid (runeN s = if (s[0]'h0).toNat < 128 then ((s[0]'h0).toNat, 1) else
      if (s[0]'h0).toNat < 192 then (0, 0) else
      if (s[0]'h0).toNat < 224 then tailN s 2 ((s[0]'h0).toNat - 192) 128 else
      if (s[0]'h0).toNat < 240 then tailN s 3 ((s[0]'h0).toNat - 224) 2048 else
      if (s[0]'h0).toNat < 248 then tailN s 4 ((s[0]'h0).toNat - 240) 65536 else (0, 0))) (a1 : ¬ (s[0]'h0).toNat < 128) (a2 : ¬ (s[0]'h0).toNat < 192) (a3 : ¬ (s[0]'h0).toNat < 224) (a4 : (s[0]'h0).toNat < 240) :
    Calls Tryd.prog 84 #[.string s] w fun e w' => e = .returned (.tuple #[.int .i64 (runeN s).1, .int .i64 (runeN s).2]) ∧ w' = w := by
  have hz : ((s.size : Int) == 0) = false := by rw [beq_eq_false_iff_ne]; omega
  have HA : Hid (runeN s = tailN s 3 ((s[0]'h0).toNat - 224) 2048) := hid (by rw [HR.out, if_neg a1, if_neg a2, if_neg a3, if_pos a4])
  have f30 : ¬ ((s[0]'h0).toNat : Int) < 128 := by omega
  have f3192 : (192 : Int) ≤ (s[0]'h0).toNat := by omega
  have f3n224 : ¬ ((s[0]'h0).toNat : Int) < 224 := by omega
  have f3224 : (224 : Int) ≤ (s[0]'h0).toNat := by omega
  have f3h : ((s[0]'h0).toNat : Int) < 240 := by omega
  by_cases hn : s.size < 3
  · have HF : Hid (runeN s = (0, 0)) := hid (by rw [HA.out]; unfold tailN; rw [if_pos hn])
    have hn' : (s.size : Int) < 3 := by omega
    clear HA HR
    go_enter Tryd.func84, Tryd.ntmps84
    go_wp2
    go_ret2
    exact ⟨by rw [HF.out]; rfl, rfl⟩
  · have HB : Hid (runeN s = match more s ((s[0]'h0).toNat - 224) 1 2 with | none => (0, 0) | some c => lastS 2048 c 3) := hid (by rw [HA.out]; unfold tailN; rw [if_neg hn]; rfl)
    have hn' : ¬ (s.size : Int) < 3 := by omega
    clear HA HR
    go_enter Tryd.func84, Tryd.ntmps84
    go_wp2
    go_loopw [4, 7] (fun cv iv wr => ∃ (c i : Nat), cv = .int .i64 c ∧ iv = .int .i64 i ∧ 1 ≤ i ∧ i ≤ 3 ∧ c + 1 ≤ 64 ^ i ∧ wr = w ∧ Hid (more s ((s[0]'h0).toNat - 224) 1 2 = more s c i (3 - i))) (fun _ iv _ => 3 - (intOf iv).toNat)
    case atStart => exact ⟨(s[0]'h0).toNat - 224, 1, by show Value.int _ _ = _; congr 1; omega, rfl, by omega, by omega, by omega, rfl, hid rfl⟩
    case round =>
      obtain ⟨c, i, rfl, rfl, hi1, hi2, hc, rfl, HX⟩ := hrel
      have hp : 64 ^ i ≤ 64 ^ 4 := Nat.pow_le_pow_right (by decide) (by omega)
      have hp4 : 64 ^ 4 = 16777216 := by decide
      have hcz : c < 16777216 := by omega
      by_cases hlt : i < 3
      · have hi : i < s.size := by omega
        have hgi := at_get s i hi
        have HS : Hid (more s c i (3 - i) = if 128 ≤ (s[i]'hi).toNat ∧ (s[i]'hi).toNat < 192 then more s (64 * c + (s[i]'hi).toNat - 128) (i + 1) (3 - (i + 1)) else none) := hid (by rw [show 3 - i = (3 - (i + 1)) + 1 by omega, more, hgi])
        have hb := (s[i]'hi).toNat_lt
        by_cases k1 : (s[i]'hi).toNat < 128
        · have HF : Hid (runeN s = (0, 0)) := hid (by rw [HB.out, HX.out, HS.out, if_neg (by omega)])
          have k1' : ((s[i]'hi).toNat : Int) < 128 := by omega
          clear HB HX HS
          go_wp2
          go_ret2
          exact ⟨by rw [HF.out]; rfl, rfl⟩
        · have k1' : ¬ ((s[i]'hi).toNat : Int) < 128 := by omega
          by_cases k2 : (s[i]'hi).toNat < 192
          · have k2' : ((s[i]'hi).toNat : Int) < 192 := by omega
            have HY : Hid (more s ((s[0]'h0).toNat - 224) 1 2 = more s (64 * c + (s[i]'hi).toNat - 128) (i + 1) (3 - (i + 1))) := hid (by rw [HX.out, HS.out, if_pos (by omega)])
            have hpow : 64 ^ (i + 1) = 64 ^ i * 64 := by rw [Nat.pow_succ]
            clear HB HX HS
            go_wp2
            go_roundw
            case rel => exact ⟨64 * c + (s[i]'hi).toNat - 128, i + 1, by show Value.int _ _ = _; congr 1; omega, by go_num, by omega, by omega, by omega, trivial, HY⟩
            case measure => simp [intOf]; omega
          · have k2' : ¬ ((s[i]'hi).toNat : Int) < 192 := by omega
            have HF : Hid (runeN s = (0, 0)) := hid (by rw [HB.out, HX.out, HS.out, if_neg (by omega)])
            clear HB HX HS
            go_wp2
            go_ret2
            exact ⟨by rw [HF.out]; rfl, rfl⟩
      · obtain rfl : i = 3 := by omega
        have HT : Hid (runeN s = lastS 2048 c 3) := hid (by rw [HB.out, HX.out]; rfl)
        clear HB HX hp hp4
        rcases (by omega : c < 2048 ∨ (2048 ≤ c ∧ 1114111 < c) ∨ (2048 ≤ c ∧ c ≤ 1114111 ∧ c < 55296) ∨ (2048 ≤ c ∧ c ≤ 1114111 ∧ 55296 ≤ c ∧ c < 57344) ∨ (2048 ≤ c ∧ c ≤ 1114111 ∧ 57344 ≤ c)) with q | q | q | q | q
        · have HF : Hid (runeN s = (0, 0)) := hid (by rw [HT.out]; unfold lastS; rw [if_pos (by omega)])
          have q1 : (c : Int) < 2048 := by omega
          go_wp2
          go_ret2
          exact ⟨by rw [HF.out]; rfl, rfl⟩
        · have HF : Hid (runeN s = (0, 0)) := hid (by rw [HT.out]; unfold lastS; rw [if_pos (by omega)])
          have q1 : ¬ (c : Int) < 2048 := by omega
          have q2 : (1114111 : Int) < c := by omega
          go_wp2
          go_ret2
          exact ⟨by rw [HF.out]; rfl, rfl⟩
        · have HF : Hid (runeN s = (c, 3)) := hid (by rw [HT.out]; unfold lastS; rw [if_neg (by omega)])
          have q1 : ¬ (c : Int) < 2048 := by omega
          have q2 : ¬ (1114111 : Int) < c := by omega
          have q3 : ¬ (55296 : Int) ≤ c := by omega
          go_wp2
          go_ret2
          exact ⟨by rw [HF.out]; rfl, rfl⟩
        · have HF : Hid (runeN s = (0, 0)) := hid (by rw [HT.out]; unfold lastS; rw [if_pos (by omega)])
          have q1 : ¬ (c : Int) < 2048 := by omega
          have q2 : ¬ (1114111 : Int) < c := by omega
          have q3 : (55296 : Int) ≤ c := by omega
          have q4 : (c : Int) < 57344 := by omega
          go_wp2
          go_ret2
          exact ⟨by rw [HF.out]; rfl, rfl⟩
        · have HF : Hid (runeN s = (c, 3)) := hid (by rw [HT.out]; unfold lastS; rw [if_neg (by omega)])
          have q1 : ¬ (c : Int) < 2048 := by omega
          have q2 : ¬ (1114111 : Int) < c := by omega
          have q3 : (55296 : Int) ≤ c := by omega
          have q4 : ¬ (c : Int) < 57344 := by omega
          go_wp2
          go_ret2
          exact ⟨by rw [HF.out]; rfl, rfl⟩
set_option maxHeartbeats 4000000 in
set_option maxRecDepth 100000 in
theorem Rune_4 (s : ByteArray) (w : World) (hs : s.size ≤ 9223372036854775807) (h0 : 0 < s.size) (HR : Hid (runeN s = if (s[0]'h0).toNat < 128 then ((s[0]'h0).toNat, 1) else
      if (s[0]'h0).toNat < 192 then (0, 0) else
      if (s[0]'h0).toNat < 224 then tailN s 2 ((s[0]'h0).toNat - 192) 128 else
      if (s[0]'h0).toNat < 240 then tailN s 3 ((s[0]'h0).toNat - 224) 2048 else
      if (s[0]'h0).toNat < 248 then tailN s 4 ((s[0]'h0).toNat - 240) 65536 else (0, 0))) (a1 : ¬ (s[0]'h0).toNat < 128) (a2 : ¬ (s[0]'h0).toNat < 192) (a3 : ¬ (s[0]'h0).toNat < 224) (a4 : ¬ (s[0]'h0).toNat < 240) (a5 : (s[0]'h0).toNat < 248) :
    Calls Tryd.prog 84 #[.string s] w fun e w' => e = .returned (.tuple #[.int .i64 (runeN s).1, .int .i64 (runeN s).2]) ∧ w' = w := by
  have hz : ((s.size : Int) == 0) = false := by rw [beq_eq_false_iff_ne]; omega
  have HA : Hid (runeN s = tailN s 4 ((s[0]'h0).toNat - 240) 65536) := hid (by rw [HR.out, if_neg a1, if_neg a2, if_neg a3, if_neg a4, if_pos a5])
  have f40 : ¬ ((s[0]'h0).toNat : Int) < 128 := by omega
  have f4192 : (192 : Int) ≤ (s[0]'h0).toNat := by omega
  have f4n224 : ¬ ((s[0]'h0).toNat : Int) < 224 := by omega
  have f4224 : (224 : Int) ≤ (s[0]'h0).toNat := by omega
  have f4n240 : ¬ ((s[0]'h0).toNat : Int) < 240 := by omega
  have f4240 : (240 : Int) ≤ (s[0]'h0).toNat := by omega
  have f4h : ((s[0]'h0).toNat : Int) < 248 := by omega
  by_cases hn : s.size < 4
  · have HF : Hid (runeN s = (0, 0)) := hid (by rw [HA.out]; unfold tailN; rw [if_pos hn])
    have hn' : (s.size : Int) < 4 := by omega
    clear HA HR
    go_enter Tryd.func84, Tryd.ntmps84
    go_wp2
    go_ret2
    exact ⟨by rw [HF.out]; rfl, rfl⟩
  · have HB : Hid (runeN s = match more s ((s[0]'h0).toNat - 240) 1 3 with | none => (0, 0) | some c => lastS 65536 c 4) := hid (by rw [HA.out]; unfold tailN; rw [if_neg hn]; rfl)
    have hn' : ¬ (s.size : Int) < 4 := by omega
    clear HA HR
    go_enter Tryd.func84, Tryd.ntmps84
    go_wp2
    go_loopw [4, 7] (fun cv iv wr => ∃ (c i : Nat), cv = .int .i64 c ∧ iv = .int .i64 i ∧ 1 ≤ i ∧ i ≤ 4 ∧ c + 1 ≤ 64 ^ i ∧ wr = w ∧ Hid (more s ((s[0]'h0).toNat - 240) 1 3 = more s c i (4 - i))) (fun _ iv _ => 4 - (intOf iv).toNat)
    case atStart => exact ⟨(s[0]'h0).toNat - 240, 1, by show Value.int _ _ = _; congr 1; omega, rfl, by omega, by omega, by omega, rfl, hid rfl⟩
    case round =>
      obtain ⟨c, i, rfl, rfl, hi1, hi2, hc, rfl, HX⟩ := hrel
      have hp : 64 ^ i ≤ 64 ^ 4 := Nat.pow_le_pow_right (by decide) (by omega)
      have hp4 : 64 ^ 4 = 16777216 := by decide
      have hcz : c < 16777216 := by omega
      by_cases hlt : i < 4
      · have hi : i < s.size := by omega
        have hgi := at_get s i hi
        have HS : Hid (more s c i (4 - i) = if 128 ≤ (s[i]'hi).toNat ∧ (s[i]'hi).toNat < 192 then more s (64 * c + (s[i]'hi).toNat - 128) (i + 1) (4 - (i + 1)) else none) := hid (by rw [show 4 - i = (4 - (i + 1)) + 1 by omega, more, hgi])
        have hb := (s[i]'hi).toNat_lt
        by_cases k1 : (s[i]'hi).toNat < 128
        · have HF : Hid (runeN s = (0, 0)) := hid (by rw [HB.out, HX.out, HS.out, if_neg (by omega)])
          have k1' : ((s[i]'hi).toNat : Int) < 128 := by omega
          clear HB HX HS
          go_wp2
          go_ret2
          exact ⟨by rw [HF.out]; rfl, rfl⟩
        · have k1' : ¬ ((s[i]'hi).toNat : Int) < 128 := by omega
          by_cases k2 : (s[i]'hi).toNat < 192
          · have k2' : ((s[i]'hi).toNat : Int) < 192 := by omega
            have HY : Hid (more s ((s[0]'h0).toNat - 240) 1 3 = more s (64 * c + (s[i]'hi).toNat - 128) (i + 1) (4 - (i + 1))) := hid (by rw [HX.out, HS.out, if_pos (by omega)])
            have hpow : 64 ^ (i + 1) = 64 ^ i * 64 := by rw [Nat.pow_succ]
            clear HB HX HS
            go_wp2
            go_roundw
            case rel => exact ⟨64 * c + (s[i]'hi).toNat - 128, i + 1, by show Value.int _ _ = _; congr 1; omega, by go_num, by omega, by omega, by omega, trivial, HY⟩
            case measure => simp [intOf]; omega
          · have k2' : ¬ ((s[i]'hi).toNat : Int) < 192 := by omega
            have HF : Hid (runeN s = (0, 0)) := hid (by rw [HB.out, HX.out, HS.out, if_neg (by omega)])
            clear HB HX HS
            go_wp2
            go_ret2
            exact ⟨by rw [HF.out]; rfl, rfl⟩
      · obtain rfl : i = 4 := by omega
        have HT : Hid (runeN s = lastS 65536 c 4) := hid (by rw [HB.out, HX.out]; rfl)
        clear HB HX hp hp4
        rcases (by omega : c < 65536 ∨ (65536 ≤ c ∧ 1114111 < c) ∨ (65536 ≤ c ∧ c ≤ 1114111 ∧ c < 55296) ∨ (65536 ≤ c ∧ c ≤ 1114111 ∧ 55296 ≤ c ∧ c < 57344) ∨ (65536 ≤ c ∧ c ≤ 1114111 ∧ 57344 ≤ c)) with q | q | q | q | q
        · have HF : Hid (runeN s = (0, 0)) := hid (by rw [HT.out]; unfold lastS; rw [if_pos (by omega)])
          have q1 : (c : Int) < 65536 := by omega
          go_wp2
          go_ret2
          exact ⟨by rw [HF.out]; rfl, rfl⟩
        · have HF : Hid (runeN s = (0, 0)) := hid (by rw [HT.out]; unfold lastS; rw [if_pos (by omega)])
          have q1 : ¬ (c : Int) < 65536 := by omega
          have q2 : (1114111 : Int) < c := by omega
          go_wp2
          go_ret2
          exact ⟨by rw [HF.out]; rfl, rfl⟩
        · have HF : Hid (runeN s = (c, 4)) := hid (by rw [HT.out]; unfold lastS; rw [if_neg (by omega)])
          have q1 : ¬ (c : Int) < 65536 := by omega
          have q2 : ¬ (1114111 : Int) < c := by omega
          have q3 : ¬ (55296 : Int) ≤ c := by omega
          go_wp2
          go_ret2
          exact ⟨by rw [HF.out]; rfl, rfl⟩
        · have HF : Hid (runeN s = (0, 0)) := hid (by rw [HT.out]; unfold lastS; rw [if_pos (by omega)])
          have q1 : ¬ (c : Int) < 65536 := by omega
          have q2 : ¬ (1114111 : Int) < c := by omega
          have q3 : (55296 : Int) ≤ c := by omega
          have q4 : (c : Int) < 57344 := by omega
          go_wp2
          go_ret2
          exact ⟨by rw [HF.out]; rfl, rfl⟩
        · have HF : Hid (runeN s = (c, 4)) := hid (by rw [HT.out]; unfold lastS; rw [if_neg (by omega)])
          have q1 : ¬ (c : Int) < 65536 := by omega
          have q2 : ¬ (1114111 : Int) < c := by omega
          have q3 : (55296 : Int) ≤ c := by omega
          have q4 : ¬ (c : Int) < 57344 := by omega
          go_wp2
          go_ret2
          exact ⟨by rw [HF.out]; rfl, rfl⟩
set_option maxHeartbeats 4000000 in
set_option maxRecDepth 100000 in
theorem Rune_is (s : ByteArray) (w : World) (hs : s.size ≤ 9223372036854775807) :
    Calls Tryd.prog 84 #[.string s] w fun e w' => e = .returned (.tuple #[.int .i64 (runeN s).1, .int .i64 (runeN s).2]) ∧ w' = w := by
  by_cases h0 : 0 < s.size
  · have hg := at_get s 0 h0
    have hne : ¬ s.size = 0 := by omega
    have HR : Hid (runeN s = if (s[0]'h0).toNat < 128 then ((s[0]'h0).toNat, 1) else
      if (s[0]'h0).toNat < 192 then (0, 0) else
      if (s[0]'h0).toNat < 224 then tailN s 2 ((s[0]'h0).toNat - 192) 128 else
      if (s[0]'h0).toNat < 240 then tailN s 3 ((s[0]'h0).toNat - 224) 2048 else
      if (s[0]'h0).toNat < 248 then tailN s 4 ((s[0]'h0).toNat - 240) 65536 else (0, 0)) := hid (by unfold runeN; rw [if_neg hne, hg])
    have hz : ((s.size : Int) == 0) = false := by rw [beq_eq_false_iff_ne]; omega
    by_cases a1 : (s[0]'h0).toNat < 128
    · have HA : Hid (runeN s = ((s[0]'h0).toNat, 1)) := hid (by rw [HR.out, if_pos a1])
      have b1 : ((s[0]'h0).toNat : Int) < 128 := by omega
      go_enter Tryd.func84, Tryd.ntmps84
      go_wp2
      go_ret2
      exact ⟨by rw [HA.out]; rfl, rfl⟩
    · have b1 : ¬ ((s[0]'h0).toNat : Int) < 128 := by omega
      by_cases a2 : (s[0]'h0).toNat < 192
      · have HA : Hid (runeN s = (0, 0)) := hid (by rw [HR.out, if_neg a1, if_pos a2])
        have b2 : ((s[0]'h0).toNat : Int) < 192 := by omega
        have b3 : ((s[0]'h0).toNat : Int) < 224 := by omega
        have b4 : ((s[0]'h0).toNat : Int) < 240 := by omega
        go_enter Tryd.func84, Tryd.ntmps84
        go_wp2
        go_ret2
        exact ⟨by rw [HA.out]; rfl, rfl⟩
      · by_cases a3 : (s[0]'h0).toNat < 224
        · exact Rune_2 s w hs h0 HR a1 a2 a3
        · by_cases a4 : (s[0]'h0).toNat < 240
          · exact Rune_3 s w hs h0 HR a1 a2 a3 a4
          · by_cases a5 : (s[0]'h0).toNat < 248
            · exact Rune_4 s w hs h0 HR a1 a2 a3 a4 a5
            · have HA : Hid (runeN s = (0, 0)) := hid (by rw [HR.out, if_neg a1, if_neg a2, if_neg a3, if_neg a4, if_neg a5])
              have b2 : ¬ ((s[0]'h0).toNat : Int) < 248 := by omega
              have b3 : ¬ ((s[0]'h0).toNat : Int) < 224 := by omega
              have b4 : ¬ ((s[0]'h0).toNat : Int) < 240 := by omega
              have b5 : (240 : Int) ≤ (s[0]'h0).toNat := by omega
              have bu : ((s[0]'h0).toNat : Int) < 256 := by have := (s[0]'h0).toNat_lt; omega
              go_enter Tryd.func84, Tryd.ntmps84
              go_wp2
              go_ret2
              exact ⟨by rw [HA.out]; rfl, rfl⟩
  · have hz : s.size = 0 := by omega
    have HA : Hid (runeN s = (0, 0)) := hid (by unfold runeN; rw [if_pos hz])
    go_enter Tryd.func84, Tryd.ntmps84
    go_wp2
    go_ret2
    exact ⟨by rw [HA.out]; rfl, rfl⟩
end Go.Proofs.YtaoeabnpmpimgaaDoor
