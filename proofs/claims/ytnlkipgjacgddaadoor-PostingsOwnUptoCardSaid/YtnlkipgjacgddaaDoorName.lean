/-
  What label.Name answers. Conditions: none.
-/
import Derived.Test.YtnlkipgjacgddaaDoorProg
import Derived.Test.YtnlkipgjacgddaaDoorText
import Derived.Lib.OthersKept
import Derived.WalkKit
import Derived.ProofKit
import Derived.Outline
namespace Go.Proofs.YtnlkipgjacgddaaDoor
open Go.RowKit Go.Icz

theorem drop_cons {s : ByteArray} {pos : Nat} (h : pos < s.size) : s.data.toList.drop pos = s[pos] :: s.data.toList.drop (pos + 1) := by
  have h' : pos < s.data.toList.length := by rw [Array.length_toList]; exact h
  rw [List.drop_eq_getElem_cons h']
  rfl
theorem drop_end {s : ByteArray} {pos : Nat} (h : ¬ pos < s.size) : s.data.toList.drop pos = [] := by
  apply List.drop_eq_nil_of_le
  rw [Array.length_toList]
  exact Nat.le_of_not_lt h
theorem size_len (s : ByteArray) : s.data.toList.length = s.size := by rw [Array.length_toList]; rfl

/-- One rune of a name. -/
theorem nameTail_step (s : ByteArray) (pos : Nat) (h : pos < s.size) :
    (((97 ≤ ((Utf8.decode s pos).1 : Int) ∧ ((Utf8.decode s pos).1 : Int) ≤ 122) ∨ (65 ≤ ((Utf8.decode s pos).1 : Int) ∧ ((Utf8.decode s pos).1 : Int) ≤ 90) ∨ (Utf8.decode s pos).1 = 95) ∧ (Utf8.decode s pos).2 = 1 ∧
      Hid (nameTail pos (s.data.toList.drop pos) = nameTail (pos + 1) (s.data.toList.drop (pos + 1)))) ∨
    (¬ ((97 ≤ ((Utf8.decode s pos).1 : Int) ∧ ((Utf8.decode s pos).1 : Int) ≤ 122) ∨ (65 ≤ ((Utf8.decode s pos).1 : Int) ∧ ((Utf8.decode s pos).1 : Int) ≤ 90) ∨ (Utf8.decode s pos).1 = 95) ∧ ((48 ≤ ((Utf8.decode s pos).1 : Int) ∧ ((Utf8.decode s pos).1 : Int) ≤ 57)) ∧ (Utf8.decode s pos).2 = 1 ∧
      Hid (nameTail pos (s.data.toList.drop pos) = (decide (pos ≠ 0) && nameTail (pos + 1) (s.data.toList.drop (pos + 1))))) ∨
    (¬ ((97 ≤ ((Utf8.decode s pos).1 : Int) ∧ ((Utf8.decode s pos).1 : Int) ≤ 122) ∨ (65 ≤ ((Utf8.decode s pos).1 : Int) ∧ ((Utf8.decode s pos).1 : Int) ≤ 90) ∨ (Utf8.decode s pos).1 = 95) ∧ ¬ (48 ≤ ((Utf8.decode s pos).1 : Int) ∧ ((Utf8.decode s pos).1 : Int) ≤ 57) ∧
      Hid (nameTail pos (s.data.toList.drop pos) = false)) := by
  rw [drop_cons h]
  by_cases ha : (s[pos]'h).toNat < 128
  · rw [decode_ascii s pos h ha]
    by_cases hl : letter (s[pos]'h).toNat = true
    · refine .inl ⟨?_, rfl, hid (by simp [nameTail, hl])⟩
      simp [letter] at hl
      simp only
      omega
    · have hl' : letter (s[pos]'h).toNat = false := by simpa using hl
      simp only [letter, Bool.or_eq_true, decide_eq_true_eq] at hl
      by_cases hd : digit (s[pos]'h).toNat = true
      · refine .inr (.inl ⟨?_, ?_, rfl, hid (by simp [nameTail, hl', hd])⟩)
        · simp only; omega
        · simp [digit] at hd; simp only; omega
      · refine .inr (.inr ⟨?_, ?_, hid (by simp [nameTail, hl', (by simpa using hd : digit (s[pos]'h).toNat = false)])⟩)
        · simp only; omega
        · simp only [digit, decide_eq_true_eq] at hd; simp only; omega
  · have h1 := decode_high s pos h (by omega)
    refine .inr (.inr ⟨by omega, by omega, hid ?_⟩)
    have e1 : letter (s[pos]'h).toNat = false := by simp [letter]; omega
    have e2 : digit (s[pos]'h).toNat = false := by simp [digit]; omega
    simp [nameTail, e1, e2]

set_option maxHeartbeats 1000000 in
set_option maxRecDepth 100000 in
theorem Name_is (s : ByteArray) (w : World) (hs : s.size ≤ 9223372036854775807) :
    Calls Tryd.prog 37 #[.string s] w fun e w' => e = .returned (.bool (nameS s.data.toList)) ∧ Below w.heap.size w w' := by
  by_cases h1 : 1 ≤ s.size ∧ s.size ≤ 64
  · have HN : Hid (nameS s.data.toList = nameTail 0 s.data.toList) := hid (by simp [nameS, h1])
    obtain ⟨ha, hb⟩ := h1
    go_enter Tryd.func37, Tryd.ntmps37
    go_wp2
    go_loopw [] (fun wr => ∃ pos, wr.heap[w.heap.size]? = some (.stringIter s pos) ∧ Below w.heap.size w wr ∧ Hid (nameTail 0 s.data.toList = nameTail pos (s.data.toList.drop pos))) (fun wr => s.size - wr.iterPos w.heap.size)
    case atStart =>
      refine ⟨0, ?_, (Below.refl _ w).alloc (Nat.le_refl _) _, hid (by simp)⟩
      exact World.iter_heap w s 0
    case round =>
      obtain ⟨pos, hit, hbw, HT⟩ := hrel
      have hsz : w.heap.size < wr.heap.size := (Array.getElem?_eq_some_iff.1 hit).1
      by_cases hp : pos < s.size
      · have hnx : ∀ ty, (Instr.next (.pointer (some ⟨w.heap.size, 0, none⟩)) true ty).run Tryd.prog wr = _ := fun ty => Lib.run_next_any_at wr w.heap.size s pos ty hit hp
        have hstep := nameTail_step s pos hp
        have hd1 := decode_le s pos
        have hit2 := Lib.iterAt_heap wr w.heap.size s pos (pos + (Utf8.decode s pos).2) hit
        have hbw2 := Lib.below_iterAt hbw (k := w.heap.size) (Nat.le_refl _) s (pos + (Utf8.decode s pos).2)
        generalize hr : (Utf8.decode s pos).1 = r at *
        generalize hk : (Utf8.decode s pos).2 = k at *
        have goesOn : k = 1 → Hid (nameTail pos (s.data.toList.drop pos) = nameTail (pos + 1) (s.data.toList.drop (pos + 1))) →
            (∃ pos_1, (wr.iterAt w.heap.size s (pos + k)).heap[w.heap.size]? = some (Obj.stringIter s pos_1) ∧ Below w.heap.size w (wr.iterAt w.heap.size s (pos + k)) ∧ Hid (nameTail 0 s.data.toList = nameTail pos_1 (s.data.toList.drop pos_1))) ∧
            s.size - (wr.iterAt w.heap.size s (pos + k)).iterPos w.heap.size < s.size - wr.iterPos w.heap.size := fun hk1 HS => by
          subst hk1
          refine ⟨⟨pos + 1, hit2, hbw2, hid (HT.out.trans HS.out)⟩, ?_⟩
          simp only [World.iterPos, hit2, hit]
          omega
        rcases hstep with ⟨hl, hk1, HS⟩ | ⟨hl, hd, hk1, HS⟩ | ⟨hl, hd, HS⟩
        · subst hk1
          have g := goesOn rfl HS
          clear goesOn
          rcases hl with ⟨ha, hb⟩ | ⟨ha, hb⟩ | ha
          · go_wp2
            all_goals first | exact g | (exfalso; omega) | (exfalso; simp_all; done) | (exfalso; simp_all; omega)
          · have : ¬ (97 ≤ (r : Int)) := by omega
            go_wp2
            all_goals first | exact g | (exfalso; omega) | (exfalso; simp_all; done) | (exfalso; simp_all; omega)
          · subst ha
            go_wp2
            all_goals first | exact g | (exfalso; omega) | (exfalso; simp_all; done) | (exfalso; simp_all; omega)
        · subst hk1
          by_cases h0 : pos = 0
          · have hf : Hid (nameS s.data.toList = false) := hid (by rw [HN.out, HT.out, HS.out, h0]; rfl)
            clear goesOn
            subst h0
            rw [Nat.zero_add] at hbw2
            go_wp2
            all_goals first | (exfalso; omega) | (exfalso; simp_all; done) | (exfalso; simp_all; omega) | (go_ret; rw [hf.out]; exact ⟨rfl, hbw2⟩)
          · have g := goesOn rfl (hid (by rw [HS.out]; simp [h0]))
            clear goesOn
            go_wp2
            all_goals first | exact g | (exfalso; omega) | (exfalso; simp_all; done) | (exfalso; simp_all; omega)
        · have hf : Hid (nameS s.data.toList = false) := hid (by rw [HN.out, HT.out, HS.out])
          clear goesOn
          go_wp2
          all_goals first | (exfalso; omega) | (exfalso; simp_all; done) | (exfalso; simp_all; omega) | (go_ret; rw [hf.out]; exact ⟨rfl, hbw2⟩)
      · have hnx : ∀ ty, (Instr.next (.pointer (some ⟨w.heap.size, 0, none⟩)) true ty).run Tryd.prog wr = _ := fun ty => Lib.run_next_end_at wr w.heap.size s pos ty hit hp
        go_wp2
        go_ret
        rw [HN.out, HT.out, drop_end hp]
        exact ⟨rfl, hbw⟩
  · have hf : nameS s.data.toList = false := by simp [nameS, h1]
    have h1' : s.size < 1 ∨ 64 < s.size := by omega
    rw [hf]
    go_enter Tryd.func37, Tryd.ntmps37
    rcases h1' with h | h
    · have : (s.size : Int) < 1 := by omega
      go_wp2
      go_ret
      exact ⟨rfl, Below.refl _ _⟩
    · go_wp2
      go_ret
      exact ⟨rfl, Below.refl _ _⟩
end Go.Proofs.YtnlkipgjacgddaaDoor
