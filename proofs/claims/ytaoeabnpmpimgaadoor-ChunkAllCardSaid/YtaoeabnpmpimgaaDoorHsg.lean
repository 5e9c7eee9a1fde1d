/-
  codec.Signed. Conditions: those that each theorem names.
-/
import Derived.Test.YtaoeabnpmpimgaaDoorWrite
namespace Go.Proofs.YtaoeabnpmpimgaaDoor
open Go.RowKit Go.Icz
/-- The plain number of a signed one. -/
def zig (n : Int) : Nat := if n < 0 then (-2 * n - 1).toNat else (2 * n).toNat
theorem zig_neg {n : Int} (h : n < 0) : (zig n : Int) = -2 * n - 1 := by unfold zig; rw [if_pos h]; omega
theorem zig_pos {n : Int} (h : 0 ≤ n) : (zig n : Int) = 2 * n := by unfold zig; rw [if_neg (by omega)]; omega
theorem signed_code (n : Int) (w : World) (h0 : -36028797018963968 ≤ n) (h1 : n < 36028797018963968) :
    Calls Tryd.prog 120 #[.int .i64 n] w fun e w' => e = .returned (.tuple #[.int .u64 (zig n), .bool true]) ∧ w = w' := by
  by_cases hn : n < 0
  · have hz := hid (zig_neg hn)
    go_enter Tryd.func120, Tryd.ntmps120
    go_wp2
    go_ret2
    rw [hz.out]
    exact ⟨rfl, rfl⟩
  · have hz := hid (zig_pos (n := n) (by omega))
    go_enter Tryd.func120, Tryd.ntmps120
    go_wp2
    go_ret2
    rw [hz.out]
    exact ⟨rfl, rfl⟩
set_option maxRecDepth 100000 in
set_option maxHeartbeats 400000 in
theorem write_signed (m : Int) (n : Nat) (w : World) (h1 : n < 72057594037927936)
    (hcode : Calls Tryd.prog 120 #[.int .i64 m] w fun e w' => e = .returned (.tuple #[.int .u64 (n : Int), .bool true]) ∧ w = w') :
    Calls Tryd.prog 73 #[.int .i64 m] w (Made w (num n)) := by
  have h8 := num_len8 h1
  go_enter Tryd.func73, Tryd.ntmps73
  go_wp2_with (go_at_call 120; refine hcode.mono ?_; rintro e w' ⟨rfl, rfl⟩)
  clear hcode
  go_loopw [6, 4] (fun v c wr => ∃ (k : Nat) (l : List Nat), c = .int .u64 k ∧ Own wr w.heap.size v l ∧ k ≤ n ∧ l ++ num k = num n ∧ Below w.heap.size w wr) (fun _ c _ => (intOf c).toNat)
  case atStart => exact ⟨n, [], rfl, Own.nil _ _, by omega, rfl, Below.refl _ _⟩
  case round =>
    obtain ⟨k, l, rfl, hown, hkn, hl, hbel⟩ := hrel
    have hll : l.length ≤ 8 := by have := congrArg List.length hl; simp at this; omega
    have hsz := hbel.size
    have HL := hid hl
    clear hl
    by_cases hk : (k : Int) < 128
    · go_wp2_with (at_builtin; refine wp_app1 std rfl (.tmp 25) (.tmp 28) rfl w.heap.size _ l k rfl hown rfl (by omega) hsz ?_; intro v' w1 hown' hb' _; clear hown)
      go_ret2
      have hl := HL.out
      rw [num_lo (by omega)] at hl
      exact ⟨_, rfl, by rw [← hl]; exact hown', hbel.trans hb'⟩
    · have h128 := or128 k
      go_wp2_with (at_builtin; refine wp_app1 std rfl (.tmp 19) (.tmp 23) rfl w.heap.size _ l (k % 128 + 128) rfl hown rfl (by omega) hsz ?_; intro v' w1 hown' hb' _; clear hown)
      go_roundw
      case rel =>
        refine ⟨k / 128, _, by go_num, hown', by omega, ?_, hbel.trans hb'⟩
        have hl := HL.out
        rw [num_hi (by omega)] at hl
        rw [← hl]
        simp
      case measure => simp [intOf]; omega
theorem zig_lt {n : Int} (h0 : -36028797018963968 ≤ n) (h1 : n < 36028797018963968) : zig n < 72057594037927936 := by unfold zig; split <;> omega
theorem Signed_yes (n : Int) (w : World) (h0 : -36028797018963968 ≤ n) (h1 : n < 36028797018963968) : Calls Tryd.prog 57 #[.int .i64 n] w (Made w (num (zig n))) := by
  go_enter Tryd.func57, Tryd.ntmps57
  go_wp2_with (go_at_call 73; refine (write_signed _ _ _ (zig_lt h0 h1) (signed_code n w h0 h1)).mono ?_; rintro e w' ⟨v, rfl, hown, hb⟩)
  go_ret2
  exact ⟨_, rfl, hown, hb⟩
end Go.Proofs.YtaoeabnpmpimgaaDoor
