/-
  What strings.IndexAny answers of any text and the three signs that end a name. Condition: the text's size as the theorem names.
-/
import Derived.Test.YtlhodanpfpfodaaGreatDoorIdxA
import Derived.Test.YtlhodanpfpfodaaGreatDoorRune
import Derived.Test.YtlhodanpfpfodaaGreatDoorShelfM
import Derived.Laws.RangeAny
import Derived.Lib.OthersKept
import Derived.Lib.TrimU
namespace Go.Proofs.YtlhodanpfpfodaaGreatDoor
open Go.RowKit Go.Icz
theorem dec_span (s : ByteArray) (pos j : Nat) (h1 : 1 ≤ j) : j < (Utf8.decode s pos).2 → pos + j < s.size ∧ 128 ≤ (s.get! (pos + j)).toNat := by
  have h : j = 1 ∨ j = 2 ∨ j = 3 ∨ 4 ≤ j := by omega
  unfold Utf8.decode
  simp only [Bool.and_eq_true, decide_eq_true_eq, beq_iff_eq]
  intro hj
  repeat' split at hj
  all_goals simp only at hj
  all_goals rcases h with rfl | rfl | rfl | h
  all_goals omega
def nameSet : B8 := [32, 61, 33]
theorem noany_span {s : ByteArray} {i k : Nat} (h : Lib.NoAny s.data.toList nameSet i) (hh : ∀ j, j < k → i + j < s.size ∧ 128 ≤ (s.get! (i + j)).toNat) : Lib.NoAny s.data.toList nameSet (i + k) := by
  induction k with
  | zero => exact h
  | succ k ih =>
    have hp := ih fun j hj => hh j (by omega)
    obtain ⟨hz, hb⟩ := hh k (by omega)
    have hx : s.data.toList[i + k]? = some (s.get! (i + k)) := by
      rw [at_get s (i + k) hz]
      exact Lib.data_getElem? s (i + k) hz
    refine hp.succ hx ?_
    generalize s.get! (i + k) = c at *
    have n1 : c ≠ 32 := by rintro rfl; revert hb; decide
    have n2 : c ≠ 61 := by rintro rfl; revert hb; decide
    have n3 : c ≠ 33 := by rintro rfl; revert hb; decide
    simp [nameSet, n1, n2, n3]
theorem iterPos_of {w : World} {k p : Nat} {s : ByteArray} (h : w.heap[k]? = some (.stringIter s p)) : w.iterPos k = p := by
  simp [World.iterPos, h]
theorem below_at {w wx : World} {s : ByteArray} {p : Nat} (h : Below w.heap.size w wx) : Below w.heap.size w (wx.iterAt w.heap.size s p) :=
  ⟨h.os, h.tape, h.output, by simpa [World.iterAt] using h.size, fun b hb => by
    have := h.block b hb
    simp only [World.iterAt]
    rw [Array.getElem?_setIfInBounds_ne (by omega)]
    exact this⟩
set_option maxHeartbeats 4000000 in
set_option maxRecDepth 100000 in
theorem IndexAny_short (s : ByteArray) (h8 : s.size ≤ 8) (w : World) :
    Calls Tryz.prog 144 #[.string s, .string ⟨#[32, 61, 33]⟩] w fun e w' => e = .returned (.int .i64 (Lib.indexAny s.data.toList nameSet)) ∧ Below w.heap.size w w' := by
  have h8z : decide ((8 : Int) < (s.size : Int)) = false := decide_eq_false (by omega)
  have hU := fun w1 => Any.strings_shouldUseASCIISet { Tryz.lays153 with } (s.size : Int) w1
  simp only [h8z] at hU
  go_enter Tryz.func144, Tryz.ntmps144
  go_wp2_with (go_at_call 167; refine (hU _).mono ?_; rintro e w1 ⟨rfl, rfl⟩)
  go_loopw [9, 10] (fun _ _ wx => ∃ i : Nat, i ≤ s.size ∧ wx.heap[w1.heap.size]? = some (.stringIter s i) ∧ Below w1.heap.size w1 wx ∧ Lib.NoAny s.data.toList nameSet i) (fun _ _ wx => s.size - wx.iterPos w1.heap.size)
  case atStart => exact ⟨0, by omega, by simp [World.iter_heap], below_iter _ _ _, Lib.NoAny.zero _ _⟩
  case round =>
    obtain ⟨i, hi, hk, hb, hno⟩ := hrel
    have hm0 := iterPos_of hk
    by_cases hlt : i < s.size
    · have hnx := fun ty => Lib.run_next_any_at (P := Tryz.prog) wr w1.heap.size s i ty hk hlt
      have hk2 : ∀ p, (wr.iterAt w1.heap.size s p).heap[w1.heap.size]? = some (.stringIter s p) := fun p => Lib.iterAt_heap wr w1.heap.size s i p hk
      have hb2 : ∀ p, Below w1.heap.size w1 (wr.iterAt w1.heap.size s p) := fun p => below_at hb
      by_cases ha : (s[i]'hlt).toNat < 128
      · rw [decode_ascii s i hlt ha] at hnx
        have hx : s.data.toList[i]? = some (s[i]'hlt) := Lib.data_getElem? s i hlt
        have hI := fun w2 => Any.strings_IndexRune_ascii { Tryz.lays153 with } ⟨#[32, 61, 33]⟩ ((s[i]'hlt).toNat : Int) w2 (by omega) (by omega)
        have hback : (((s[i]'hlt).toNat : Int)).toNat.toUInt8 = s[i]'hlt := by simp
        rw [hback] at hI
        have hcon : nameSet.contains (s[i]'hlt) = decide (0 ≤ Lib.indexByte nameSet (s[i]'hlt)) := Lib.contains_iff_indexByte nameSet (s[i]'hlt)
        replace hI : ∀ w2 : World, Calls Tryz.prog 158 #[.string ⟨#[32, 61, 33]⟩, .int .i32 (s[i]'hlt).toNat] w2 fun e w' => e = .returned (.int .i64 (Lib.indexByte nameSet (s[i]'hlt))) ∧ w' = w2 := hI
        generalize s[i]'hlt = c at *
        obtain ⟨v, hv⟩ : ∃ v, Lib.indexByte nameSet c = v := ⟨_, rfl⟩
        rw [hv] at hI hcon
        have HN : Hid (Lib.NoAny s.data.toList nameSet i) := hid hno
        have HX : Hid (s.data.toList[i]? = some c) := hid hx
        clear hno hx
        cases hin : nameSet.contains c
        · rw [hin] at hcon
          have hlt2 : ¬ ((0 : Int) ≤ v) := of_decide_eq_false hcon.symm
          clear hcon
          go_wp2_with (go_at_call 158; refine (hI _).mono ?_; rintro e w2 ⟨rfl, rfl⟩)
          have hm := iterPos_of (hk2 (i + 1))
          exact ⟨⟨i + 1, by omega, hk2 _, hb2 _, HN.out.succ HX.out hin⟩, by rw [hm, hm0]; omega⟩
        · rw [hin] at hcon
          have hge : (0 : Int) ≤ v := of_decide_eq_true hcon.symm
          clear hcon
          go_wp2_with (go_at_call 158; refine (hI _).mono ?_; rintro e w2 ⟨rfl, rfl⟩)
          go_ret
          exact ⟨by rw [Lib.indexAny_hit HN.out HX.out hin]; rfl, hb2 _⟩
      · obtain ⟨d1, d2⟩ := decode_high s i hlt (by omega)
        have d3 := Lib.rune_le s i
        have d4 := fun j h1 h2 => dec_span s i j h1 h2
        have hsp : Lib.NoAny s.data.toList nameSet (i + (Utf8.decode s i).2) := noany_span hno fun j hj => by
          by_cases j0 : j = 0
          · subst j0
            refine ⟨hlt, ?_⟩
            rw [Nat.add_zero, at_get s i hlt]
            omega
          · exact d4 j (by omega) hj
        have hle : i + (Utf8.decode s i).2 ≤ s.size := by
          by_cases k1 : (Utf8.decode s i).2 = 1
          · omega
          · have := (d4 ((Utf8.decode s i).2 - 1) (by omega) (by omega)).1
            omega
        have HS : Hid (Lib.NoAny s.data.toList nameSet (i + (Utf8.decode s i).2)) := hid hsp
        clear hsp hno d4 ha
        generalize (Utf8.decode s i).1 = r at *
        generalize (Utf8.decode s i).2 = z at *
        have hI := fun w2 => IndexRune_hi r d1 d3 w2
        go_wp2_with (go_at_call 158; refine (hI _).mono ?_; rintro e w2 ⟨rfl, hb3⟩)
        have hsz : w1.heap.size < (wr.iterAt w1.heap.size s (i + z)).heap.size := (Array.getElem?_eq_some_iff.1 (hk2 (i + z))).1
        have hk3 : w2.heap[w1.heap.size]? = some (.stringIter s (i + z)) := (hb3.block _ hsz).trans (hk2 _)
        have hm := iterPos_of hk3
        exact ⟨⟨i + z, hle, hk3, (hb2 _).trans (hb3.mono (by omega)), HS.out⟩, by rw [hm, hm0]; omega⟩
    · obtain rfl : i = s.size := by omega
      have hnx := fun ty => Lib.run_next_end_at (P := Tryz.prog) wr w1.heap.size s s.size ty hk (by omega)
      have HN : Hid (Lib.NoAny s.data.toList nameSet s.size) := hid hno
      clear hno
      go_wp2_with fail
      go_ret
      exact ⟨by rw [Lib.indexAny_none (by rw [← Lib.size_eq]; exact HN.out)]; rfl, hb⟩
theorem IndexAny_is (s : ByteArray) (hs : s.size < 4294967281) (w : World) :
    Calls Tryz.prog 144 #[.string s, .string ⟨#[32, 61, 33]⟩] w fun e w' => e = .returned (.int .i64 (Lib.indexAny s.data.toList nameSet)) ∧ Below w.heap.size w w' := by
  by_cases h8 : s.size ≤ 8
  · exact IndexAny_short s h8 w
  · have h116 : (Tryz.prog.info? (Tryz.lays153_ren.t 116)).map (fun i => (i.zero, i.size)) = some (some (.agg (Array.replicate 256 (.bool false))), 256) := by kernel_rfl
    obtain ⟨e1, e2⟩ := zero_of_info h116
    refine (Any.strings_IndexAny_long Tryz.lays153 e1 e2 s ⟨#[32, 61, 33]⟩ w (by decide) (by omega) hs (by decide) ?_).mono fun e w' ⟨h1, h2⟩ => ⟨h1, ?_⟩
    · intro j b hj
      rcases j with _ | _ | _ | j
      · cases hj; decide
      · cases hj; decide
      · cases hj; decide
      · cases hj
    · rw [h2]
      exact ((Below.refl _ _).alloc (Nat.le_refl _) _).alloc (by simp) _
end Go.Proofs.YtlhodanpfpfodaaGreatDoor
