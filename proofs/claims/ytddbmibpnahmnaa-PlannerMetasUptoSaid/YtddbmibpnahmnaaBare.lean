/-
  What the reference's Bytes of a number answers. Conditions: those that the theorem names.
-/
import Derived.Test.YtddbmibpnahmnaaWrite
namespace Go.Proofs.Ytddbmibpnahmnaa
open Go.RowKit Go.Icz
/-- Bytes in new memory, bare. -/
def Bare (w : World) (l : List Nat) (e : Ending) (w' : World) : Prop :=
  ∃ v, e = .returned v ∧ Own w' w.heap.size v l ∧ Below w.heap.size w w'
set_option maxRecDepth 100000 in
set_option maxHeartbeats 400000 in
theorem Bytes_any (n : Nat) (w : World) (h1 : n < 72057594037927936) : Calls Try.prog 41 #[.int .i64 (n : Int)] w (Bare w (num n)) := by
  have h8 := num_len8 h1
  go_enter Try.func41, Try.ntmps41
  go_wp2_with fail
  go_loopw [3, 0] (fun v c wr => ∃ (k : Nat) (l : List Nat), c = .int .i64 k ∧ Own wr w.heap.size v l ∧ k ≤ n ∧ l ++ num k = num n ∧ Below w.heap.size w wr) (fun _ c _ => (intOf c).toNat)
  case atStart => exact ⟨n, [], rfl, Own.nil _ _, by omega, rfl, Below.refl _ _⟩
  case round =>
    obtain ⟨k, l, rfl, hown, hkn, hl, hbel⟩ := hrel
    have hll : l.length ≤ 8 := by have := congrArg List.length hl; simp at this; omega
    have hsz := hbel.size
    have HL := hid hl
    clear hl
    by_cases hk : (127 : Int) < k
    · go_wp2_with (at_builtin; refine wp_app1 std rfl (.tmp 6) (.tmp 11) rfl w.heap.size _ l (k % 128 + 128) rfl hown rfl (by omega) hsz ?_; intro v' w1 hown' hb' _; clear hown)
      go_roundw
      case rel =>
        refine ⟨k / 128, _, by go_num, hown', by omega, ?_, hbel.trans hb'⟩
        have hl := HL.out
        rw [num_hi (by omega)] at hl
        rw [← hl]
        simp
      case measure => simp [intOf]; omega
    · go_wp2_with (at_builtin; refine wp_app1 std rfl (.tmp 15) (.tmp 18) rfl w.heap.size _ l k rfl hown rfl (by omega) hsz ?_; intro v' w1 hown' hb' _; clear hown)
      go_ret
      have hl := HL.out
      rw [num_lo (by omega)] at hl
      exact ⟨_, rfl, by rw [← hl]; exact hown', hbel.trans hb'⟩
end Go.Proofs.Ytddbmibpnahmnaa
