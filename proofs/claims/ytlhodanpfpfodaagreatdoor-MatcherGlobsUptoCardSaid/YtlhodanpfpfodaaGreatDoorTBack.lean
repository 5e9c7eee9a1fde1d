/-
  Labels that may be are read as they were printed. No condition.
-/
import Derived.Test.YtlhodanpfpfodaaGreatDoorParse
import Derived.Test.YtlhodanpfpfodaaGreatDoorPrint
import Derived.Test.YtlhodanpfpfodaaGreatDoorQBack
namespace Go.Proofs.YtlhodanpfpfodaaGreatDoor
open Go.RowKit Go.Icz
theorem nameTail_good : ∀ (l : B8) (i : Nat), nameTail i l = true → ∀ b ∈ l, b ≠ 32 ∧ b ≠ 61
  | [], _, _, b, hb => by simp at hb
  | c :: t, i, h, b, hb => by
    simp only [nameTail, Bool.and_eq_true] at h
    rcases List.mem_cons.1 hb with rfl | hb
    · have h1 := h.1
      constructor
      · rintro rfl; have e1 : letter (UInt8.toNat 32) = false := by decide
        have e2 : digit (UInt8.toNat 32) = false := by decide
        rw [e1, e2] at h1; simp at h1
      · rintro rfl; have e1 : letter (UInt8.toNat 61) = false := by decide
        have e2 : digit (UInt8.toNat 61) = false := by decide
        rw [e1, e2] at h1; simp at h1
    · exact nameTail_good t _ h.2 b hb
theorem name_good {s : B8} (h : nameS s = true) : s ≠ [] ∧ ∀ b ∈ s, b ≠ 32 ∧ b ≠ 61 := by
  simp only [nameS, Bool.and_eq_true, decide_eq_true_eq] at h
  exact ⟨fun e => by subst e; simp at h, nameTail_good s 0 h.2⟩
theorem trimL_good {a : B8} (hne : a ≠ []) (h : ∀ b ∈ a, b ≠ 32) (t : B8) : trimL (a ++ t) = a ++ t := by
  obtain ⟨c, u, rfl⟩ := List.exists_cons_of_ne_nil hne
  have := h c (by simp)
  unfold trimL Lib.trimLeftB
  rw [List.cons_append, List.dropWhile_cons, if_neg (by simpa using this)]
theorem trimL_head {c : UInt8} (h : c ≠ 32) (t : B8) : trimL (c :: t) = c :: t := by
  unfold trimL Lib.trimLeftB
  rw [List.dropWhile_cons, if_neg (by simpa using h)]
theorem trimL_blank (t : B8) : trimL (32 :: t) = trimL t := by
  unfold trimL Lib.trimLeftB
  rw [List.dropWhile_cons, if_pos (by rfl)]
theorem trimR_good {a : B8} (h : ∀ b ∈ a, b ≠ 32) : trimR a = a := by
  unfold trimR Lib.trimRightB
  have : a.reverse.dropWhile (· == 32) = a.reverse := by
    cases e : a.reverse with
    | nil => rfl
    | cons c u =>
      have hc : c ∈ a := by rw [← List.mem_reverse, e]; simp
      rw [List.dropWhile_cons, if_neg (by simpa using h c hc)]
  rw [this, List.reverse_reverse]
theorem cut_name {a : B8} (h : ∀ b ∈ a, b ≠ 61) (t : B8) : before (a ++ 61 :: t) 61 = a ∧ after (a ++ 61 :: t) 61 = t := by
  induction a with
  | nil => exact ⟨by simp [before], by simp [after]⟩
  | cons c u ih =>
    have hc := h c (by simp)
    have ih := ih fun b hb => h b (by simp [hb])
    unfold before after at *
    rw [List.cons_append, List.takeWhile_cons, if_pos (by simpa using hc), List.dropWhile_cons, if_pos (by simpa using hc)]
    exact ⟨by rw [ih.1], ih.2⟩
theorem pair_back {x : Lab} (h1 : nameS x.1 = true) (h2 : valueS x.2 = true) (t : B8) : pairS (x.1 ++ 61 :: (quoteS x.2 ++ t)) = some (x, t) := by
  obtain ⟨hn, hb⟩ := name_good h1
  obtain ⟨c1, c2⟩ := cut_name (fun b hb' => (hb b hb').2) (quoteS x.2 ++ t)
  simp only [valueS, Bool.and_eq_true] at h2
  obtain ⟨e, q⟩ := unquote_quote x.2 t h2.2
  have e2 : trimL (quoteS x.2 ++ t) = quoteS x.2 ++ t := by rw [e]; exact trimL_head (by decide) _
  unfold pairS
  rw [c1, c2, e2, q]
  simp only [trimR_good fun b hb' => (hb b hb').1, List.drop_left]
theorem sign_no {c d : UInt8} (t : B8) (h : c ≠ 32) (hd : c ≠ d) : signS (c :: t) d = (c :: t, false) := by
  unfold signS
  rw [trimL_head h, if_neg (by unfold Lib.hasPrefix; simp [Ne.symm hd])]
theorem sign_yes {c : UInt8} (t : B8) (h : c ≠ 32) : signS (c :: t) c = (trimL t, true) := by
  unfold signS
  have hp : Lib.hasPrefix (c :: t) [c] = true := hasPrefix_app [c] t
  rw [trimL_head h, if_pos hp]
  rfl
theorem loop_back : ∀ (l : List Lab) (x : Lab) (p : Option B8) (acc : List Lab) (f : Nat), chain p (x :: l) = true → l.length + 1 ≤ f →
    loopS f (x.1 ++ 61 :: (quoteS x.2 ++ (pbody [44, 32] l ++ [125]))) acc = some (acc ++ x :: l, [125])
  | [], x, p, acc, f, h, hf => by
    obtain ⟨f, rfl⟩ : ∃ g, f = g + 1 := ⟨f - 1, by omega⟩
    simp only [chain, Bool.and_eq_true] at h
    unfold loopS
    rw [pair_back h.1.1.1 h.1.1.2]
    show (if (signS [125] 44).2 = true then _ else _) = _
    rw [sign_no _ (by decide) (by decide)]
    rfl
  | y :: l, x, p, acc, f, h, hf => by
    obtain ⟨f, rfl⟩ : ∃ g, f = g + 1 := ⟨f - 1, by omega⟩
    have h' := h
    simp only [chain, Bool.and_eq_true] at h
    have hy := name_good h.2.1.1.1
    have hc : chain (some x.1) (y :: l) = true := by
      unfold chain at h'
      rw [Bool.and_eq_true] at h'
      exact h'.2
    unfold loopS
    rw [pair_back h.1.1.1 h.1.1.2]
    have e : (pbody [44, 32] (y :: l) ++ [125] : B8) = 44 :: 32 :: (y.1 ++ 61 :: (quoteS y.2 ++ (pbody [44, 32] l ++ [125]))) := by simp [pbody]
    simp only [e, sign_yes _ (show (44 : UInt8) ≠ 32 by decide), trimL_blank, trimL_good hy.1 fun b hb => (hy.2 b hb).1, if_true]
    rw [loop_back l y _ (acc ++ [x]) f hc (by simp at hf; omega)]
    simp
theorem pbody_len : ∀ t : List Lab, t.length ≤ (pbody [44, 32] t).length
  | [] => by simp
  | y :: u => by
    have := pbody_len u
    simp only [pbody, List.length_append, List.length_cons, List.length_nil]; omega
/-- Labels that may be are read as they were printed. -/
theorem parse_print {l : List Lab} (h : rightS l = true) : parseS (printS l) = some l := by
  have h' := h
  simp only [rightS, Bool.and_eq_true, decide_eq_true_eq] at h'
  obtain ⟨⟨h1, h2⟩, hc⟩ := h'
  cases l with
  | nil => simp at h1
  | cons x t =>
    have hx : nameS x.1 = true := by simp only [chain, Bool.and_eq_true] at hc; exact hc.1.1.1
    have hx := name_good hx
    have e : printS (x :: t) = 123 :: (x.1 ++ 61 :: (quoteS x.2 ++ (pbody [44, 32] t ++ [125]))) := by
      unfold printS
      rw [if_pos h]
      simp [pbody]
    unfold parseS
    rw [e, sign_yes _ (by decide), trimL_good hx.1 fun b hb => (hx.2 b hb).1]
    simp only [if_true]
    have hlen : t.length + 1 ≤ (x.1 ++ 61 :: (quoteS x.2 ++ (pbody [44, 32] t ++ [125])) : B8).length + 1 := by
      have := pbody_len t
      simp only [List.length_append, List.length_cons]
      omega
    rw [loop_back t x none [] _ hc hlen]
    show (if (signS [125] 125).2 = true ∧ (signS [125] 125).1 = [] then some _ else none) = _
    rw [sign_yes _ (by decide)]
    rfl
end Go.Proofs.YtlhodanpfpfodaaGreatDoor
