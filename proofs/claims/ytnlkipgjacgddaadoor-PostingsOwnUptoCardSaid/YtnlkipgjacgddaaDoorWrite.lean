/-
  What codec.Number, codec.Text and label.Bytes answer: bytes in new memory. Conditions: those that each theorem names.
-/
import Derived.Test.YtnlkipgjacgddaaDoorRight
namespace Go.Proofs.YtnlkipgjacgddaaDoor
open Go.RowKit Go.Icz
/-- It answers a slice of its own with the bytes l, and no error. -/
def Made (w : World) (l : List Nat) (e : Ending) (w' : World) : Prop :=
  ∃ v, e = .returned (.tuple #[v, .int .i64 0]) ∧ Own w' w.heap.size v l ∧ Below w.heap.size w w'
theorem plain_code (n : Int) (w : World) (h0 : 0 ≤ n) (h1 : n < 72057594037927936) :
    Calls Tryd.prog 112 #[.int .i64 n] w fun e w' => e = .returned (.tuple #[.int .u64 n, .bool true]) ∧ w = w' := by
  go_enter Tryd.func112, Tryd.ntmps112
  go_wp2
  go_ret2
  exact ⟨rfl, rfl⟩
set_option maxRecDepth 100000 in
set_option maxHeartbeats 400000 in
theorem write_plain (m : Int) (n : Nat) (w : World) (h1 : n < 72057594037927936)
    (hcode : Calls Tryd.prog 112 #[.int .i64 m] w fun e w' => e = .returned (.tuple #[.int .u64 (n : Int), .bool true]) ∧ w = w') :
    Calls Tryd.prog 50 #[.int .i64 m] w (Made w (num n)) := by
  have h8 := num_len8 h1
  go_enter Tryd.func50, Tryd.ntmps50
  go_wp2_with (go_at_call 112; refine hcode.mono ?_; rintro e w' ⟨rfl, rfl⟩)
  clear hcode
  go_loopw [6, 4] (fun v c wr => ∃ (k : Nat) (l : List Nat), c = .int .u64 k ∧ Own wr w.heap.size v l ∧ k ≤ n ∧ l ++ num k = num n ∧ Below w.heap.size w wr) (fun _ c _ => (intOf c).toNat)
  case atStart => exact ⟨n, [], rfl, Own.nil _ _, by omega, rfl, Below.refl _ _⟩
  case round =>
    obtain ⟨k, l, rfl, hown, hkn, hl, hbel⟩ := hrel
    have hll : l.length ≤ 8 := by have := congrArg List.length hl; simp at this; omega
    have hsz := hbel.size
    have HL := hid hl
    clear hl
    by_cases hk : (k : Int) < 128
    · go_wp2_with (at_builtin; refine wp_app1 std rfl (.tmp 25) (.tmp 28) rfl w.heap.size _ l k rfl hown rfl (by omega) hsz ?_; intro v' w1 hown' hb' _; clear hown)
      go_ret2
      have hl := HL.out
      rw [num_lo (by omega)] at hl
      exact ⟨_, rfl, by rw [← hl]; exact hown', hbel.trans hb'⟩
    · have h128 := or128 k
      go_wp2_with (at_builtin; refine wp_app1 std rfl (.tmp 19) (.tmp 23) rfl w.heap.size _ l (k % 128 + 128) rfl hown rfl (by omega) hsz ?_; intro v' w1 hown' hb' _; clear hown)
      go_roundw
      case rel =>
        refine ⟨k / 128, _, by go_num, hown', by omega, ?_, hbel.trans hb'⟩
        have hl := HL.out
        rw [num_hi (by omega)] at hl
        rw [← hl]
        simp
      case measure => simp [intOf]; omega
theorem Number_yes (n : Int) (w : World) (h0 : 0 ≤ n) (h1 : n < 72057594037927936) : Calls Tryd.prog 35 #[.int .i64 n] w (Made w (num n.toNat)) := by
  go_enter Tryd.func35, Tryd.ntmps35
  go_wp2_with (go_at_call 50; refine (write_plain _ n.toNat _ (by omega) (by have := plain_code n w h0 h1; rwa [Int.toNat_of_nonneg h0])).mono ?_; rintro e w' ⟨v, rfl, hown, hb⟩)
  go_ret2
  exact ⟨_, rfl, hown, hb⟩
/-- Text: the length as a number, and the bytes. -/
def txt (s : ByteArray) : List Nat := num s.size ++ nats s
def bytesL : List Lab → List Nat
  | [] => []
  | x :: t => (txt ⟨x.1.toArray⟩ ++ txt ⟨x.2.toArray⟩) ++ bytesL t
/-- The bytes of labels. -/
def bytesN (l : List Lab) : List Nat := num l.length ++ bytesL l
theorem txt_len (s : ByteArray) (h : s.size ≤ 128) : (txt s).length ≤ 136 := by
  unfold txt
  have := num_len8 (n := s.size) (by omega)
  rw [List.length_append, nats_len]
  omega
def part (x : Lab) : Nat → List Nat
  | 0 => []
  | 1 => txt ⟨x.1.toArray⟩
  | _ => txt ⟨x.1.toArray⟩ ++ txt ⟨x.2.toArray⟩
theorem cells89 : Tryd.prog.cellsOf 9 = 1 := by kernel_rfl
end Go.Proofs.YtnlkipgjacgddaaDoor
