/-
  What the reference's hex answers of a number below 256. Conditions: those that each theorem names.
-/
import Derived.Test.YthgmmloocdfphaaGreatDoorQMath
import Derived.Test.YthgmmloocdfphaaGreatDoorGood
import Derived.Test.YthgmmloocdfphaaGreatDoorWrite
namespace Go.Proofs.YthgmmloocdfphaaGreatDoor
open Go.RowKit Go.Icz

theorem rd_one (w : World) (d : Nat) : Rd (w.alloc (.cells #[.int .u8 (d : Int)] 5)) (.slice (some ⟨w.heap.size, 0, none⟩) 1 1) [d] := by
  refine ⟨_, 1, rfl, Nat.le_refl _, fun _ => ⟨w.heap.size, 0, rfl, by simp, fun j hj => ?_⟩⟩
  simp only [List.length_cons, List.length_nil] at hj
  obtain rfl : j = 0 := by omega
  rw [cell_of_row _ _ _ _ _ _ (heap_alloc_new w (.cells _ _))]
  rfl
def dig16s : ByteArray := { data := #[48, 49, 50, 51, 52, 53, 54, 55, 56, 57, 97, 98, 99, 100, 101, 102] }
theorem dig16 (k : Nat) (h : k < 16) {p : k < ({ data := #[48, 49, 50, 51, 52, 53, 54, 55, 56, 57, 97, 98, 99, 100, 101, 102] } : ByteArray).size} :
    (({ data := #[48, 49, 50, 51, 52, 53, 54, 55, 56, 57, 97, 98, 99, 100, 101, 102] } : ByteArray)[k]'p).toNat = hd k := by
  have := (show ∀ x : Fin 16, (dig16s[x.val]'(Nat.lt_of_lt_of_le x.isLt (by decide))).toNat = hd x.val by decide +kernel)
  exact this ⟨k, h⟩
theorem str_cons (d : Nat) (l : List Nat) : str [d] ++ str l = str (d :: l) := by
  unfold str
  rw [app_mk]
  rfl
set_option maxRecDepth 100000 in
theorem RHex_is (n : Nat) (h : n < 256) (w : World) :
    Calls Tryz.prog 88 #[.int .i64 n] w fun e w' => e = .returned (.string (str (hexN n))) ∧ Below w.heap.size w w' := by
  go_enter Tryz.func88, Tryz.ntmps88
  go_wp2_with fail
  go_loopw [0, 4] (fun u s wr => ∃ (k : Nat) (l : List Nat), u = .int .i64 k ∧ s = .string (str l) ∧ Below w.heap.size w wr ∧ Hid (hexN k ++ l = hexN n) ∧ k < 256 ∧ l.length ≤ 1) (fun u _ _ => (intOf u).toNat)
  case atStart => exact ⟨n, [], rfl, rfl, Below.refl _ _, hid (by simp), h, by simp⟩
  case round =>
    obtain ⟨k, l, rfl, rfl, hb, HX, hk, hl⟩ := hrel
    have hcv := fun d => conv_rd std (rd_one wr d)
    have hsz : (str l).size ≤ 1 := by rw [str, Lib.size_mk, List.length_map]; exact hl
    have hsc := fun d => str_cons d l
    have hf := hb.size
    have hadd : ∀ d, ¬ 9223372036854775807 < (str [d]).size + (str l).size := fun d => by have : (str [d]).size = 1 := rfl; omega
    clear hsz
    by_cases h16 : k < 16
    · have hd1 := fun p => dig16 k h16 (p := p)
      have HS := hid (show hd k :: l = hexN n by rw [← HX.out, hexN_lo h16]; rfl)
      go_wp2
      go_ret
      exact ⟨by rw [← HS.out]; rfl, hb.alloc hf _⟩
    · have hd1 := fun p => dig16 (k % 16) (by omega) (p := p)
      have HS := hid (show hexN (k / 16) ++ hd (k % 16) :: l = hexN n by rw [← HX.out, hexN_hi h16]; simp)
      have hl0 : l = [] := by
        have e := congrArg List.length HX.out
        have h1 := hexN_two h
        have h2 := hexN_pos (k / 16)
        rw [hexN_hi h16, List.length_append, List.length_append] at e
        simp only [List.length_cons, List.length_nil] at e
        exact List.eq_nil_of_length_eq_zero (by omega)
      subst hl0
      go_wp2
      refine ⟨⟨k / 16, [hd (k % 16)], by go_num, rfl, hb.alloc hf _, HS, by omega, by simp⟩, ?_⟩
      simp [intOf]
      omega
end Go.Proofs.YthgmmloocdfphaaGreatDoor
