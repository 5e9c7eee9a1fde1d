/-
  What strconv.FormatInt answers of a number below 256 to the base 16. Conditions: those that each theorem names.
-/
import Derived.Test.YtlhodanpfpfodaaGreatDoorProg
import Derived.Test.YtlhodanpfpfodaaGreatDoorBase
import Derived.Test.YtlhodanpfpfodaaGreatDoorShelf
import Derived.WalkKit
import Derived.ProofKit
import Derived.Outline
namespace Go.Proofs.YtlhodanpfpfodaaGreatDoor
open Go.RowKit Go.Icz

/-- The two errors of package strconv are in place. -/
structure Errs (w : World) : Prop where
  syn : ∃ ev, w.cell? ⟨5, 0, none⟩ = some ev ∧ (ev = .nilIface ∨ ∃ te pe, ev = .iface te pe)
  rng : ∃ ev, w.cell? ⟨6, 0, none⟩ = some ev ∧ (ev = .nilIface ∨ ∃ te pe, ev = .iface te pe)
theorem Errs.below {w w' : World} (h : Errs w) (hb : Below w.heap.size w w') : Errs w' := by
  have c : ∀ p v, w.cell? p = some v → w'.cell? p = some v := fun p v hc => (hb.cell (World.block_lt_of_cell? w p hc)).trans hc
  obtain ⟨⟨a, ha, ha2⟩, b, hb1, hb2⟩ := h
  exact ⟨⟨a, c _ _ ha, ha2⟩, b, c _ _ hb1, hb2⟩
/-- What is asked of the program's tables. -/
structure Tabs (w : World) : Prop where
  utf8 : Lib.Utf8Tabs 1 2 w
  deb : w.cell? ⟨8, 15, none⟩ = some (.int .u8 4)
  err : Errs w

theorem isPow (w : World) : Calls Tryz.prog 176 #[.int .i64 16] w fun e w' => e = .returned (.bool true) ∧ w = w' := by
  go_enter Tryz.func176, Tryz.ntmps176
  go_wp2
  go_ret
  exact ⟨rfl, rfl⟩
theorem tz64 (w : World) (hT : w.cell? ⟨8, 15, none⟩ = some (.int .u8 4)) : Calls Tryz.prog 187 #[.int .u64 16] w fun e w' => e = .returned (.int .i64 4) ∧ w = w' := by
  have e1 : IntKind.u64.wrap (bits BinOp.and IntKind.u64 16 (IntKind.u64.wrap (-16)) * 285870213051353865) = 4573923408821661840 := by decide +kernel
  go_enter Tryz.func187, Tryz.ntmps187
  go_wp2
  go_ret
  exact ⟨rfl, rfl⟩
theorem tz (w : World) (hT : w.cell? ⟨8, 15, none⟩ = some (.int .u8 4)) : Calls Tryz.prog 177 #[.int .u64 16] w fun e w' => e = .returned (.int .i64 4) ∧ w = w' := by
  go_enter Tryz.func177, Tryz.ntmps177
  go_wp2_with (go_at_call 187; refine (tz64 _ hT).mono ?_; rintro e w' ⟨rfl, rfl⟩)
  go_ret
  exact ⟨rfl, rfl⟩
theorem std : Std Tryz.prog := ⟨Tryz.underlying59, Tryz.underlying5, Tryz.underlying9, by kernel_rfl⟩
/-- A digit to the base 16. -/
def hd (n : Nat) : Nat := if n < 10 then 48 + n else 87 + n
def hexN (n : Nat) : List Nat := if n < 16 then [hd n] else hexN (n / 16) ++ [hd (n % 16)]
termination_by n
decreasing_by omega
theorem hexN_lo {n : Nat} (h : n < 16) : hexN n = [hd n] := by rw [hexN, if_pos h]
theorem hexN_hi {n : Nat} (h : ¬ n < 16) : hexN n = hexN (n / 16) ++ [hd (n % 16)] := by rw [hexN, if_neg h]
theorem hexN_pos (n : Nat) : 1 ≤ (hexN n).length := by
  by_cases h : n < 16
  · rw [hexN_lo h]; simp
  · rw [hexN_hi h]; simp
theorem hexN_two {n : Nat} (h : n < 256) : (hexN n).length ≤ 2 := by
  by_cases h1 : n < 16
  · rw [hexN_lo h1]; simp
  · rw [hexN_hi h1, hexN_lo (by omega)]; simp
/-- The cells of a row, written from its end. -/
def Tail (cs : Array Value) (l : List Nat) : Prop := cs.size = 65 ∧ ∀ j (hj : j < l.length), cs[65 - l.length + j]? = some (.int .u8 (l[j] : Int))
theorem Tail.push {cs : Array Value} {l : List Nat} (h : Tail cs l) (d : Nat) (hl : l.length < 65) : Tail (cs.setIfInBounds (64 - l.length) (.int .u8 (d : Int))) (d :: l) := by
  obtain ⟨h1, h2⟩ := h
  refine ⟨by simpa using h1, fun j hj => ?_⟩
  simp only [List.length_cons] at hj ⊢
  match j with
  | 0 => simp [Array.getElem?_setIfInBounds, h1, show 65 - (l.length + 1) = 64 - l.length by omega]; omega
  | j + 1 =>
    rw [Array.getElem?_setIfInBounds_ne (by omega), show 65 - (l.length + 1) + (j + 1) = 65 - l.length + j by omega]
    exact h2 j (by omega)
theorem Tail.rd {cs : Array Value} {l : List Nat} (h : Tail cs l) (w : World) (t : TypeId) (c : Nat) (hc : l.length ≤ c) : Rd (w.alloc (.cells cs t)) (.slice (some ⟨w.heap.size, 65 - l.length, none⟩) l.length c) l := by
  refine ⟨_, c, rfl, hc, fun _ => ⟨w.heap.size, 65 - l.length, rfl, by simp, fun j hj => ?_⟩⟩
  rw [cell_of_row _ _ _ _ _ _ (heap_alloc_new w (.cells cs t))]
  exact h.2 j hj

theorem and15 (k : Nat) (h : k < 256) : bits BinOp.and IntKind.u64 (k : Int) 15 = ((k % 16 : Nat) : Int) := by
  have := (show ∀ x : Fin 256, bits BinOp.and IntKind.u64 ((x.val : Nat) : Int) 15 = ((x.val % 16 : Nat) : Int) by decide +kernel)
  exact this ⟨k, h⟩
def digs : ByteArray := { data := #[48, 49, 50, 51, 52, 53, 54, 55, 56, 57, 97, 98, 99, 100, 101, 102, 103, 104, 105, 106, 107, 108, 109, 110, 111, 112, 113, 114, 115, 116, 117, 118, 119, 120, 121, 122] }
theorem dig (k : Nat) (h : k < 16) {p : k < ({ data := #[48, 49, 50, 51, 52, 53, 54, 55, 56, 57, 97, 98, 99, 100, 101, 102, 103, 104, 105, 106, 107, 108, 109, 110, 111, 112, 113, 114, 115, 116, 117, 118, 119, 120, 121, 122] } : ByteArray).size} :
    (({ data := #[48, 49, 50, 51, 52, 53, 54, 55, 56, 57, 97, 98, 99, 100, 101, 102, 103, 104, 105, 106, 107, 108, 109, 110, 111, 112, 113, 114, 115, 116, 117, 118, 119, 120, 121, 122] } : ByteArray)[k]'p).toNat = hd k := by
  have := (show ∀ x : Fin 16, (digs[x.val]'(Nat.lt_of_lt_of_le x.isLt (by decide))).toNat = hd x.val by decide +kernel)
  exact this ⟨k, h⟩
set_option maxRecDepth 100000 in
theorem bits_hex (n : Nat) (h : n < 256) (w : World) (hT : w.cell? ⟨8, 15, none⟩ = some (.int .u8 4)) :
    Calls Tryz.prog 152 #[.slice none 0 0, .int .u64 n, .int .i64 16, .bool false, .bool false] w fun e w' => e = .returned (.tuple #[.slice none 0 0, .string (str (hexN n))]) ∧ Below w.heap.size w w' := by
  have hT' : ∀ o, (w.alloc o).cell? ⟨8, 15, none⟩ = some (.int .u8 4) := fun o => (((Below.refl w.heap.size w).alloc (Nat.le_refl _) o).cell (p := ⟨8, 15, none⟩) (World.block_lt_of_cell? w ⟨8, 15, none⟩ hT)).trans hT
  go_enter Tryz.func152, Tryz.ntmps152
  go_wp2_with (first | (go_at_call 176; refine (isPow _).mono ?_; rintro e w' ⟨rfl, rfl⟩) | (go_at_call 177; refine (tz _ (hT' _)).mono ?_; rintro e w' ⟨rfl, rfl⟩))
  clear hT'
  go_loopw [1, 13] (fun u i wr => ∃ (k : Nat) (cs : Array Value) (l : List Nat), u = .int .u64 k ∧ i = .int .i64 ((65 - l.length : Nat) : Int) ∧ wr = w.alloc (.cells cs 217) ∧ Tail cs l ∧ Hid (hexN k ++ l = hexN n) ∧ k < 256 ∧ l.length ≤ 1) (fun u _ _ => (intOf u).toNat)
  case atStart => exact ⟨n, Tryz.zeroCells217, [], rfl, rfl, rfl, ⟨by kernel_rfl, fun j hj => by simp at hj⟩, hid (by simp), h, by simp⟩
  case round =>
    obtain ⟨k, cs, l, rfl, rfl, rfl, ht, HX, hk, hl⟩ := hrel
    have hl2 := hexN_two h
    have hcs := ht.1
    have hand := and15 k hk
    have hT2 := HX
    rcases l with _ | ⟨d, _ | ⟨d2, r⟩⟩
    · obtain ⟨z, hz⟩ : ∃ z, cs[64]? = some z := ⟨cs[64], Array.getElem?_eq_getElem (by omega)⟩
      have ht2 := fun d => ht.push d (by simp)
      simp only [List.length_nil, Nat.sub_zero] at ht2
      by_cases h16 : k < 16
      · go_wp2
        rw [dig k h16, conv_rd std (show Rd (w.alloc (.cells (cs.setIfInBounds 64 (.int .u8 (hd k : Int))) 217)) (.slice (some ⟨w.heap.size, 64, none⟩) 1 1) [hd k] from (ht2 (hd k)).rd w 217 1 (by simp))]
        go_wp2
        go_ret2
        have e := HX.out
        rw [hexN_lo h16] at e
        rw [← e]
        exact ⟨rfl, (Below.refl _ _).alloc (Nat.le_refl _) _⟩
      · go_wp2
        refine ⟨⟨k / 16, _, [hd (k % 16)], by go_num, rfl, rfl, ?_, hid ?_, by omega, by simp⟩, ?_⟩
        · rw [dig (k % 16) (by omega)]
          exact ht2 (hd (k % 16))
        · rw [← HX.out, hexN_hi h16]
          simp
        · simp [intOf]
          omega
    · obtain ⟨z, hz⟩ : ∃ z, cs[63]? = some z := ⟨cs[63], Array.getElem?_eq_getElem (by omega)⟩
      have ht2 := fun d => ht.push d (by simp)
      simp only [List.length_cons, List.length_nil] at ht2
      by_cases h16 : k < 16
      · go_wp2
        rw [dig k h16, conv_rd std (show Rd (w.alloc (.cells (cs.setIfInBounds 63 (.int .u8 (hd k : Int))) 217)) (.slice (some ⟨w.heap.size, 63, none⟩) 2 2) [hd k, d] from (ht2 (hd k)).rd w 217 2 (by simp))]
        go_wp2
        go_ret2
        have e := HX.out
        rw [hexN_lo h16] at e
        rw [← e]
        exact ⟨rfl, (Below.refl _ _).alloc (Nat.le_refl _) _⟩
      · exfalso
        have e := congrArg List.length HX.out
        rw [hexN_hi h16] at e
        have := hexN_pos (k / 16)
        simp at e
        omega
    · simp at hl

theorem Format_hex (n : Nat) (h : n < 256) (w : World) (hT : w.cell? ⟨8, 15, none⟩ = some (.int .u8 4)) :
    Calls Tryz.prog 124 #[.int .i64 n, .int .i64 16] w fun e w' => e = .returned (.string (str (hexN n))) ∧ Below w.heap.size w w' := by
  go_enter Tryz.func124, Tryz.ntmps124
  go_wp2_with (go_at_call 152; refine (bits_hex n h _ hT).mono ?_; rintro e w' ⟨rfl, bel⟩)
  go_ret
  exact ⟨rfl, bel⟩
theorem FormatInt_hex (n : Nat) (h : n < 256) (w : World) (hT : w.cell? ⟨8, 15, none⟩ = some (.int .u8 4)) :
    Calls Tryz.prog 119 #[.int .i64 n, .int .i64 16] w fun e w' => e = .returned (.string (str (hexN n))) ∧ Below w.heap.size w w' := by
  go_enter Tryz.func119, Tryz.ntmps119
  go_wp2_with (go_at_call 124; refine (Format_hex n h _ hT).mono ?_; rintro e w' ⟨rfl, bel⟩)
  go_ret
  exact ⟨rfl, bel⟩
end Go.Proofs.YtlhodanpfpfodaaGreatDoor
