/-
  What the program's writers of numbers and texts answer and make (codec.Number, Signed, Text, the generic write, both code methods, the law's num and knows, the reference's Bytes). Conditions: those that each theorem names.
-/
import Derived.Test.YtpcmonebihgjhaaProg
import Derived.Test.YtpcmonebihgjhaaBase
import Derived.WalkKit
import Derived.ProofKit
import Derived.Outline
namespace Go.Proofs.Ytpcmonebihgjhaa
open Go.RowKit Go.Icy
theorem std : Std Try.prog := ⟨Try.underlying22, Try.underlying5, Try.underlying9, by kernel_rfl⟩

/-- It answers a slice of its own with the bytes l, and no error. -/
def Made (w : World) (l : List Nat) (e : Ending) (w' : World) : Prop :=
  ∃ v, e = .returned (.tuple #[v, .int .i64 0]) ∧ Own w' w.heap.size v l ∧ Below w.heap.size w w'
/-- It answers nil and the error k. -/
def Fails (w : World) (k : Int) (e : Ending) (w' : World) : Prop := e = .returned (.tuple #[.slice none 0 0, .int .i64 k]) ∧ w = w'

theorem plain_code (n : Int) (w : World) (h0 : 0 ≤ n) (h1 : n < 72057594037927936) :
    Calls Try.prog 45 #[.int .i64 n] w fun e w' => e = .returned (.tuple #[.int .u64 n, .bool true]) ∧ w = w' := by
  go_enter Try.func45, Try.ntmps45
  go_wp2
  go_ret2
  exact ⟨rfl, rfl⟩
theorem plain_code_no (n : Int) (w : World) (h0 : n < 0 ∨ 72057594037927936 ≤ n) :
    Calls Try.prog 45 #[.int .i64 n] w fun e w' => e = .returned (.tuple #[.int .u64 (IntKind.u64.wrap n), .bool false]) ∧ w = w' := by
  rcases h0 with h0 | h0
  · go_enter Try.func45, Try.ntmps45
    go_wp2
    go_ret2
    exact ⟨rfl, rfl⟩
  · have hd : decide (n < 72057594037927936) = false := decide_eq_false (by omega)
    go_enter Try.func45, Try.ntmps45
    go_wp2
    go_ret2
    exact ⟨rfl, rfl⟩

/-- The plain number of a signed one. -/
def zig (n : Int) : Nat := if n < 0 then (-2 * n - 1).toNat else (2 * n).toNat
theorem zig_neg {n : Int} (h : n < 0) : (zig n : Int) = -2 * n - 1 := by unfold zig; rw [if_pos h]; omega
theorem zig_pos {n : Int} (h : 0 ≤ n) : (zig n : Int) = 2 * n := by unfold zig; rw [if_neg (by omega)]; omega
theorem signed_code (n : Int) (w : World) (h0 : -36028797018963968 ≤ n) (h1 : n < 36028797018963968) :
    Calls Try.prog 46 #[.int .i64 n] w fun e w' => e = .returned (.tuple #[.int .u64 (zig n), .bool true]) ∧ w = w' := by
  by_cases hn : n < 0
  · have hz := hid (zig_neg hn)
    go_enter Try.func46, Try.ntmps46
    go_wp2
    go_ret2
    rw [hz.out]
    exact ⟨rfl, rfl⟩
  · have hz := hid (zig_pos (n := n) (by omega))
    go_enter Try.func46, Try.ntmps46
    go_wp2
    go_ret2
    rw [hz.out]
    exact ⟨rfl, rfl⟩
theorem signed_code_no (n : Int) (w : World) (h0 : n < -36028797018963968 ∨ 36028797018963968 ≤ n) :
    Calls Try.prog 46 #[.int .i64 n] w fun e w' => (∃ c : Int, e = .returned (.tuple #[.int .u64 c, .bool false])) ∧ w = w' := by
  rcases h0 with h0 | h0
  · go_enter Try.func46, Try.ntmps46
    go_wp2
    go_ret2
    exact ⟨⟨_, rfl⟩, rfl⟩
  · have hd : decide (n < 36028797018963968) = false := decide_eq_false (by omega)
    have hd2 : decide (n < 0) = false := decide_eq_false (by omega)
    go_enter Try.func46, Try.ntmps46
    go_wp2
    go_ret2
    exact ⟨⟨_, rfl⟩, rfl⟩

set_option maxRecDepth 100000 in
set_option maxHeartbeats 400000 in
theorem write_plain (m : Int) (n : Nat) (w : World) (h1 : n < 72057594037927936)
    (hcode : Calls Try.prog 45 #[.int .i64 m] w fun e w' => e = .returned (.tuple #[.int .u64 (n : Int), .bool true]) ∧ w = w') :
    Calls Try.prog 20 #[.int .i64 m] w (Made w (num n)) := by
  have h8 := num_len8 h1
  go_enter Try.func20, Try.ntmps20
  go_wp2_with (go_at_call 45; refine hcode.mono ?_; rintro e w' ⟨rfl, rfl⟩)
  clear hcode
  go_loopw [6, 4] (fun v c wr => ∃ (k : Nat) (l : List Nat), c = .int .u64 k ∧ Own wr w.heap.size v l ∧ k ≤ n ∧ l ++ num k = num n ∧ Below w.heap.size w wr) (fun _ c _ => (intOf c).toNat)
  case atStart => exact ⟨n, [], rfl, Own.nil _ _, by omega, rfl, Below.refl _ _⟩
  case round =>
    obtain ⟨k, l, rfl, hown, hkn, hl, hbel⟩ := hrel
    have hll : l.length ≤ 8 := by have := congrArg List.length hl; simp at this; omega
    have hsz := hbel.size
    have HL := hid hl
    clear hl
    by_cases hk : (k : Int) < 128
    · go_wp2_with (at_builtin; refine wp_app1 std rfl (.tmp 25) (.tmp 28) rfl w.heap.size _ l k rfl hown rfl (by omega) hsz ?_; intro v' w1 hown' hb' _; clear hown)
      go_ret2
      have hl := HL.out
      rw [num_lo (by omega)] at hl
      exact ⟨_, rfl, by rw [← hl]; exact hown', hbel.trans hb'⟩
    · have h128 := or128 k
      go_wp2_with (at_builtin; refine wp_app1 std rfl (.tmp 19) (.tmp 23) rfl w.heap.size _ l (k % 128 + 128) rfl hown rfl (by omega) hsz ?_; intro v' w1 hown' hb' _; clear hown)
      go_roundw
      case rel =>
        refine ⟨k / 128, _, by go_num, hown', by omega, ?_, hbel.trans hb'⟩
        have hl := HL.out
        rw [num_hi (by omega)] at hl
        rw [← hl]
        simp
      case measure => simp [intOf]; omega
theorem Number_yes (n : Int) (w : World) (h0 : 0 ≤ n) (h1 : n < 72057594037927936) : Calls Try.prog 6 #[.int .i64 n] w (Made w (num n.toNat)) := by
  go_enter Try.func6, Try.ntmps6
  go_wp2_with (go_at_call 20; refine (write_plain _ n.toNat _ (by omega) (by have := plain_code n w h0 h1; rwa [Int.toNat_of_nonneg h0])).mono ?_; rintro e w' ⟨v, rfl, hown, hb⟩)
  go_ret2
  exact ⟨_, rfl, hown, hb⟩
theorem write_plain_no (n : Int) (w : World) (h0 : n < 0 ∨ 72057594037927936 ≤ n) : Calls Try.prog 20 #[.int .i64 n] w (Fails w 11) := by
  have H := hid h0
  clear h0
  go_enter Try.func20, Try.ntmps20
  go_wp2_with (go_at_call 45; refine (plain_code_no _ _ H.out).mono ?_; rintro e w' ⟨rfl, rfl⟩)
  go_ret2
  exact ⟨rfl, rfl⟩
theorem Number_no (n : Int) (w : World) (h0 : n < 0 ∨ 72057594037927936 ≤ n) : Calls Try.prog 6 #[.int .i64 n] w (Fails w 11) := by
  have H := hid h0
  clear h0
  go_enter Try.func6, Try.ntmps6
  go_wp2_with (go_at_call 20; refine (write_plain_no _ _ H.out).mono ?_; rintro e w' ⟨rfl, rfl⟩)
  go_ret2
  exact ⟨rfl, rfl⟩

set_option maxRecDepth 100000 in
set_option maxHeartbeats 400000 in
theorem write_signed (m : Int) (n : Nat) (w : World) (h1 : n < 72057594037927936)
    (hcode : Calls Try.prog 46 #[.int .i64 m] w fun e w' => e = .returned (.tuple #[.int .u64 (n : Int), .bool true]) ∧ w = w') :
    Calls Try.prog 22 #[.int .i64 m] w (Made w (num n)) := by
  have h8 := num_len8 h1
  go_enter Try.func22, Try.ntmps22
  go_wp2_with (go_at_call 46; refine hcode.mono ?_; rintro e w' ⟨rfl, rfl⟩)
  clear hcode
  go_loopw [6, 4] (fun v c wr => ∃ (k : Nat) (l : List Nat), c = .int .u64 k ∧ Own wr w.heap.size v l ∧ k ≤ n ∧ l ++ num k = num n ∧ Below w.heap.size w wr) (fun _ c _ => (intOf c).toNat)
  case atStart => exact ⟨n, [], rfl, Own.nil _ _, by omega, rfl, Below.refl _ _⟩
  case round =>
    obtain ⟨k, l, rfl, hown, hkn, hl, hbel⟩ := hrel
    have hll : l.length ≤ 8 := by have := congrArg List.length hl; simp at this; omega
    have hsz := hbel.size
    have HL := hid hl
    clear hl
    by_cases hk : (k : Int) < 128
    · go_wp2_with (at_builtin; refine wp_app1 std rfl (.tmp 25) (.tmp 28) rfl w.heap.size _ l k rfl hown rfl (by omega) hsz ?_; intro v' w1 hown' hb' _; clear hown)
      go_ret2
      have hl := HL.out
      rw [num_lo (by omega)] at hl
      exact ⟨_, rfl, by rw [← hl]; exact hown', hbel.trans hb'⟩
    · have h128 := or128 k
      go_wp2_with (at_builtin; refine wp_app1 std rfl (.tmp 19) (.tmp 23) rfl w.heap.size _ l (k % 128 + 128) rfl hown rfl (by omega) hsz ?_; intro v' w1 hown' hb' _; clear hown)
      go_roundw
      case rel =>
        refine ⟨k / 128, _, by go_num, hown', by omega, ?_, hbel.trans hb'⟩
        have hl := HL.out
        rw [num_hi (by omega)] at hl
        rw [← hl]
        simp
      case measure => simp [intOf]; omega
theorem zig_lt {n : Int} (h0 : -36028797018963968 ≤ n) (h1 : n < 36028797018963968) : zig n < 72057594037927936 := by unfold zig; split <;> omega
theorem Signed_yes (n : Int) (w : World) (h0 : -36028797018963968 ≤ n) (h1 : n < 36028797018963968) : Calls Try.prog 8 #[.int .i64 n] w (Made w (num (zig n))) := by
  go_enter Try.func8, Try.ntmps8
  go_wp2_with (go_at_call 22; refine (write_signed _ _ _ (zig_lt h0 h1) (signed_code n w h0 h1)).mono ?_; rintro e w' ⟨v, rfl, hown, hb⟩)
  go_ret2
  exact ⟨_, rfl, hown, hb⟩
theorem write_signed_no (n : Int) (w : World) (h0 : n < -36028797018963968 ∨ 36028797018963968 ≤ n) : Calls Try.prog 22 #[.int .i64 n] w (Fails w 11) := by
  have H := hid h0
  clear h0
  go_enter Try.func22, Try.ntmps22
  go_wp2_with (go_at_call 46; refine (signed_code_no _ _ H.out).mono ?_; rintro e w' ⟨⟨c, rfl⟩, rfl⟩)
  go_ret2
  exact ⟨rfl, rfl⟩
theorem Signed_no (n : Int) (w : World) (h0 : n < -36028797018963968 ∨ 36028797018963968 ≤ n) : Calls Try.prog 8 #[.int .i64 n] w (Fails w 11) := by
  have H := hid h0
  clear h0
  go_enter Try.func8, Try.ntmps8
  go_wp2_with (go_at_call 22; refine (write_signed_no _ _ H.out).mono ?_; rintro e w' ⟨rfl, rfl⟩)
  go_ret2
  exact ⟨rfl, rfl⟩

theorem num_any (n : Int) (w : World) : Calls Try.prog 10 #[.int .i64 n] w fun e w' => e = .returned (.int .i64 n) ∧ w = w' := by
  go_enter Try.func10, Try.ntmps10
  go_wp2
  go_ret
  exact ⟨rfl, rfl⟩

/-- Text: the length as a number, and the bytes. -/
def txt (s : ByteArray) : List Nat := num s.size ++ nats s
theorem Text_yes (s : ByteArray) (w : World) (hs : s.size ≤ 65536) : Calls Try.prog 18 #[.string s] w (Made w (txt s)) := by
  have h8 := num_len8 (n := s.size) (by omega)
  have hN := Number_yes (s.size : Int)
  simp only [Int.toNat_natCast] at hN
  have HN := hid hN
  clear hN
  go_enter Try.func18, Try.ntmps18
  go_wp2_with (first | (go_at_call 6; refine (HN.out _ (by omega) (by omega)).mono ?_; rintro e w' ⟨v, rfl, hown, hb⟩) | (at_builtin; refine wp_appS std rfl (.tmp 18) (.tmp 19) rfl w.heap.size _ (num s.size) s rfl hown rfl (by omega) hb.size ?_; intro v' w1 hown' hb'; clear hown))
  go_ret2
  exact ⟨_, rfl, hown', hb.trans hb'⟩
theorem Text_no (s : ByteArray) (w : World) (hs : 65536 < s.size) : Calls Try.prog 18 #[.string s] w (Fails w 6) := by
  go_enter Try.func18, Try.ntmps18
  go_wp2
  go_ret2
  exact ⟨rfl, rfl⟩

/-- knows: true, and only new memory. -/
def Knew (w : World) (e : Ending) (w' : World) : Prop := e = .returned (.bool true) ∧ Below w.heap.size w w'
theorem num300 : num 300 = [172, 2] := by rw [num_hi (by omega), num_lo (by omega)]
theorem num1 : num (zig (-1)) = [1] := by rw [num_lo (by decide)]; rfl
theorem txtab : txt ⟨#[97, 98]⟩ = [2, 97, 98] := by
  unfold txt
  rw [num_lo (by decide)]
  rfl
theorem knows_any (w : World) : Calls Try.prog 11 #[] w (Knew w) := by
  go_enter Try.func11, Try.ntmps11
  go_wp2_with (go_at_call 6; refine (Number_yes 300 _ (by omega) (by omega)).mono ?_; rintro e w1 ⟨v1, rfl, o1, b1⟩)
  go_wp2_with (go_at_call 8; refine (Signed_yes (-1) _ (by omega) (by omega)).mono ?_; rintro e w2 ⟨v2, rfl, o2, b2⟩)
  go_wp2_with (go_at_call 18; refine (Text_yes _ _ (by decide)).mono ?_; rintro e w3 ⟨v3, rfl, o3, b3⟩)
  have c1 := conv_rd std ((o1.rd.below b2).below b3)
  have c2 := conv_rd std (o2.rd.below b3)
  have c3 := conv_rd std o3.rd
  rw [show (300 : Int).toNat = 300 from rfl, num300, show str [172, 2] = ⟨#[172, 2]⟩ from rfl] at c1
  rw [num1, show str [1] = ⟨#[1]⟩ from rfl] at c2
  rw [txtab, show str [2, 97, 98] = ⟨#[2, 97, 98]⟩ from rfl] at c3
  have hb := (b1.trans (b2.mono b1.size)).trans (b3.mono (Nat.le_trans b1.size b2.size))
  clear o1 o2 o3 b1 b2 b3
  go_wp2_with (go_at_call 10; refine (num_any _ _).mono ?_; rintro e w' ⟨rfl, rfl⟩)
  go_ret
  exact ⟨rfl, hb⟩

/-- The reference's bytes of a number. -/
def Bare (w : World) (l : List Nat) (e : Ending) (w' : World) : Prop :=
  ∃ v, e = .returned v ∧ Own w' w.heap.size v l ∧ Below w.heap.size w w'
set_option maxRecDepth 100000 in
set_option maxHeartbeats 400000 in
theorem Bytes_any (n : Nat) (w : World) (h1 : n < 72057594037927936) : Calls Try.prog 21 #[.int .i64 (n : Int)] w (Bare w (num n)) := by
  have h8 := num_len8 h1
  go_enter Try.func21, Try.ntmps21
  go_wp2_with fail
  go_loopw [3, 0] (fun v c wr => ∃ (k : Nat) (l : List Nat), c = .int .i64 k ∧ Own wr w.heap.size v l ∧ k ≤ n ∧ l ++ num k = num n ∧ Below w.heap.size w wr) (fun _ c _ => (intOf c).toNat)
  case atStart => exact ⟨n, [], rfl, Own.nil _ _, by omega, rfl, Below.refl _ _⟩
  case round =>
    obtain ⟨k, l, rfl, hown, hkn, hl, hbel⟩ := hrel
    have hll : l.length ≤ 8 := by have := congrArg List.length hl; simp at this; omega
    have hsz := hbel.size
    have HL := hid hl
    clear hl
    by_cases hk : (127 : Int) < k
    · go_wp2_with (at_builtin; refine wp_app1 std rfl (.tmp 6) (.tmp 11) rfl w.heap.size _ l (k % 128 + 128) rfl hown rfl (by omega) hsz ?_; intro v' w1 hown' hb' _; clear hown)
      go_roundw
      case rel =>
        refine ⟨k / 128, _, by go_num, hown', by omega, ?_, hbel.trans hb'⟩
        have hl := HL.out
        rw [num_hi (by omega)] at hl
        rw [← hl]
        simp
      case measure => simp [intOf]; omega
    · go_wp2_with (at_builtin; refine wp_app1 std rfl (.tmp 15) (.tmp 18) rfl w.heap.size _ l k rfl hown rfl (by omega) hsz ?_; intro v' w1 hown' hb' _; clear hown)
      go_ret
      have hl := HL.out
      rw [num_lo (by omega)] at hl
      exact ⟨_, rfl, by rw [← hl]; exact hown', hbel.trans hb'⟩
end Go.Proofs.Ytpcmonebihgjhaa
