/-
  What label.quoted answers of a rune. Conditions: those that each theorem names.
-/
import Derived.Test.YtlhodanpfpfodaaGreatDoorHex
import Derived.Lib.MapLaws
namespace Go.Proofs.YtlhodanpfpfodaaGreatDoor
open Go.RowKit Go.Icz

theorem ofNat_toNat_int {x : Nat} {y : Int} (h : y = x) : (y.toNat).toUInt8 = UInt8.ofNat x := by subst h; rfl
/-- A rune's bytes: the model's and the shelf's are one. -/
theorem encode_is (r : Nat) (h : r ≤ 1114111) : Utf8.encode (r : Int) = ⟨(Lib.encodeRune (r : Int)).toArray⟩ := by
  unfold Utf8.encode Lib.encodeRune
  by_cases hv : Utf8.valid (r : Int) = true
  · have hv' := hv
    simp only [Utf8.valid, Bool.and_eq_true, Bool.or_eq_true, decide_eq_true_eq] at hv'
    simp only [hv, if_true, Int.toNat_natCast]
    by_cases h1 : r < 128
    · rw [if_pos h1, Lib.encodeRuneZ_one (by omega) (by omega)]; rfl
    · rw [if_neg h1]
      by_cases h2 : r < 2048
      · rw [if_pos h2, Lib.encodeRuneZ_two (by omega) (by omega)]
        simp only [List.map_cons, List.map_nil]
        rw [ofNat_toNat_int (x := 192 + r / 64) (by omega), ofNat_toNat_int (x := 128 + r % 64) (by omega)]
      · rw [if_neg h2]
        by_cases h3 : r < 65536
        · rw [if_pos h3, Lib.encodeRuneZ_three (by omega)]
          simp only [List.map_cons, List.map_nil]
          rw [ofNat_toNat_int (x := 224 + r / 4096) (by omega), ofNat_toNat_int (x := 128 + r / 64 % 64) (by omega), ofNat_toNat_int (x := 128 + r % 64) (by omega)]
        · rw [if_neg h3, Lib.encodeRuneZ_four (by omega) (by omega)]
          simp only [List.map_cons, List.map_nil]
          rw [ofNat_toNat_int (x := 240 + r / 262144) (by omega), ofNat_toNat_int (x := 128 + r / 4096 % 64) (by omega), ofNat_toNat_int (x := 128 + r / 64 % 64) (by omega), ofNat_toNat_int (x := 128 + r % 64) (by omega)]
  · have hv' := hv
    simp only [Utf8.valid, Bool.and_eq_true, Bool.or_eq_true, decide_eq_true_eq] at hv'
    rw [if_neg hv, Lib.encodeRuneZ_bad (by omega)]
    rfl

/-- A rune as it stands within a quoted text. -/
def qr (r : Nat) : B8 :=
  if r = 34 ∨ r = 92 then [92, UInt8.ofNat r] else if r = 10 then [92, 110] else if r < 32 ∨ r = 127 then [92, 117, 123] ++ (hexN r).map UInt8.ofNat ++ [125] else Lib.encodeRune (r : Int)

theorem app_mk (a b : B8) : (⟨a.toArray⟩ : ByteArray) ++ ⟨b.toArray⟩ = ⟨(a ++ b).toArray⟩ := by
  apply ByteArray.ext
  simp
theorem str_mk (l : List Nat) : str l = ⟨(l.map UInt8.ofNat).toArray⟩ := rfl

theorem q34 : ({ data := #[92] } : ByteArray) ++ Utf8.encode 34 = ⟨(qr 34).toArray⟩ := by decide +kernel
theorem q92 : ({ data := #[92] } : ByteArray) ++ Utf8.encode 92 = ⟨(qr 92).toArray⟩ := by decide +kernel
theorem q10 : ({ data := #[92, 110] } : ByteArray) = ⟨(qr 10).toArray⟩ := by decide +kernel
theorem ret_str {a b : ByteArray} (h : a = b) : Ending.returned (Value.string a) = Ending.returned (Value.string b) := by rw [h]
set_option maxRecDepth 100000 in
theorem quoted_is (r : Nat) (h : r ≤ 1114111) (w : World) (hT : w.cell? ⟨8, 15, none⟩ = some (.int .u8 4)) :
    Calls Tryz.prog 86 #[.int .i32 r] w fun e w' => e = .returned (.string ⟨(qr r).toArray⟩) ∧ Below w.heap.size w w' := by
  have HE := hid (encode_is r h)
  by_cases h1 : r = 34
  · subst h1
    go_enter Tryz.func86, Tryz.ntmps86
    go_wp2
    go_ret
    exact ⟨ret_str q34, Below.refl _ _⟩
  by_cases h2 : r = 92
  · subst h2
    go_enter Tryz.func86, Tryz.ntmps86
    go_wp2
    go_ret
    exact ⟨ret_str q92, Below.refl _ _⟩
  by_cases h3 : r = 10
  · subst h3
    go_enter Tryz.func86, Tryz.ntmps86
    go_wp2
    go_ret
    exact ⟨ret_str q10, Below.refl _ _⟩
  have e1 : ((r : Int) == 34) = false := by simp; omega
  have e2 : ((r : Int) == 92) = false := by simp; omega
  have e3 : ((r : Int) == 10) = false := by simp; omega
  by_cases h4 : r < 32 ∨ r = 127
  · have HQ : Hid (qr r = [92, 117, 123] ++ (hexN r).map UInt8.ofNat ++ [125]) := hid (by simp only [qr]; rw [if_neg (by omega), if_neg h3, if_pos h4])
    have HS : Hid (({ data := #[92, 117, 123] } : ByteArray) ++ str (hexN r) ++ { data := #[125] } = ⟨(qr r).toArray⟩) := hid (by rw [HQ.out, str_mk, ← app_mk, ← app_mk])
    have F := FormatInt_hex r (by omega) w hT
    have hsz : (str (hexN r)).size ≤ 2 := by
      have := hexN_two (n := r) (by omega)
      simpa [str, ByteArray.size] using this
    clear hT HE HQ
    generalize str (hexN r) = t at F HS hsz
    rcases h4 with h4 | h4
    · go_enter Tryz.func86, Tryz.ntmps86
      go_wp2_with (go_at_call 119; refine F.mono ?_; rintro e w' ⟨rfl, bel⟩)
      go_ret
      exact ⟨ret_str HS.out, bel⟩
    · have e5 : ((r : Int) == 127) = true := by simp; omega
      have e6 : ¬ ((r : Int) < 32) := by omega
      clear h4
      go_enter Tryz.func86, Tryz.ntmps86
      go_wp2_with (go_at_call 119; refine F.mono ?_; rintro e w' ⟨rfl, bel⟩)
      go_ret
      exact ⟨ret_str HS.out, bel⟩
  · have HQ : Hid (qr r = Lib.encodeRune (r : Int)) := hid (by simp only [qr]; rw [if_neg (by omega), if_neg h3, if_neg h4])
    have e4 : ¬ ((r : Int) < 32) := by omega
    have e5 : ((r : Int) == 127) = false := by simp; omega
    go_enter Tryz.func86, Tryz.ntmps86
    go_wp2
    go_ret
    exact ⟨ret_str (by rw [HQ.out, HE.out]), Below.refl _ _⟩
end Go.Proofs.YtlhodanpfpfodaaGreatDoor
