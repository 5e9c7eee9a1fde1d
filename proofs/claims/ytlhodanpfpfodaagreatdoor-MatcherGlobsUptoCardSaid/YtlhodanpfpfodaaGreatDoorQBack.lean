/-
  A quoted text is read as it was written, whatever stands behind it. No condition but that it is good UTF-8.
-/
import Derived.Test.YtlhodanpfpfodaaGreatDoorUnq
import Derived.Lib.DecodeN
import Derived.Lib.TrimUEq
import Derived.Lib.ValidLaws
namespace Go.Proofs.YtlhodanpfpfodaaGreatDoor
open Go.RowKit Go.Icz
theorem qbody_len : ∀ (l : B8), Lib.validD l = true → l.length ≤ (qbody l).length
  | l, hv => by
    by_cases hne : l = []
    · subst hne; simp
    · have hk := Lib.decodeL_le l hne
      have hw := Lib.decodeL_width l
      have hr := Lib.decodeL_rune l
      have hpl : 0 < l.length := List.length_pos_iff.2 hne
      have hv2 : ¬ ((Lib.decodeL l).1 = 65533 ∧ (Lib.decodeL l).2 = 1) ∧ Lib.validD (l.drop (Lib.decodeL l).2) = true := by
        rw [Lib.validD_step l hne] at hv
        split at hv
        · cases hv
        · exact ⟨by assumption, hv⟩
      have hE := congrArg List.length (Lib.encode_decode l hne hv2.1)
      rw [List.length_take] at hE
      have h2 := encodeRune_le_qr _ hr
      have ih := qbody_len (l.drop (Lib.decodeL l).2) hv2.2
      rw [List.length_drop] at ih
      rw [qbody_step l hne, List.length_append]
      omega
termination_by l => l.length
decreasing_by rw [List.length_drop]; omega
/-- What a rune that is good is decoded of, whatever stands behind it. -/
theorem decodeN_pre {n b0 b1 b2 b3 r k : Nat} (h : Lib.decodeN n b0 b1 b2 b3 = (r, k)) (hg : ¬ (r = 65533 ∧ k = 1)) (hn : k ≤ n) {m c1 c2 c3 : Nat} (hm : k ≤ m) (h1 : 2 ≤ k → c1 = b1) (h2 : 3 ≤ k → c2 = b2) (h3 : 4 ≤ k → c3 = b3) :
    Lib.decodeN m b0 c1 c2 c3 = (r, k) := by
  unfold Lib.decodeN at h ⊢
  by_cases g0 : b0 < 128
  · rw [if_pos g0] at h ⊢; exact h
  rw [if_neg g0] at h ⊢
  by_cases g1 : b0 / 32 = 6 ∧ (1 < n ∧ b1 / 64 = 2)
  · rw [if_pos g1] at h
    split at h
    · simp only [Prod.mk.injEq] at h
      obtain ⟨rfl, rfl⟩ := h
      obtain rfl := h1 (Nat.le_refl _)
      rw [if_pos ⟨g1.1, by omega, g1.2.2⟩, if_pos (by assumption)]
    · simp only [Prod.mk.injEq] at h; omega
  rw [if_neg g1] at h
  by_cases g2 : b0 / 16 = 14 ∧ (1 < n ∧ b1 / 64 = 2) ∧ (2 < n ∧ b2 / 64 = 2)
  · rw [if_pos g2] at h
    split at h
    · simp only [Prod.mk.injEq] at h
      obtain ⟨rfl, rfl⟩ := h
      obtain rfl := h1 (by omega)
      obtain rfl := h2 (Nat.le_refl _)
      rw [if_neg (by omega), if_pos ⟨g2.1, ⟨by omega, g2.2.1.2⟩, by omega, g2.2.2.2⟩, if_pos (by assumption)]
    · simp only [Prod.mk.injEq] at h; omega
  rw [if_neg g2] at h
  by_cases g3 : b0 / 8 = 30 ∧ (1 < n ∧ b1 / 64 = 2) ∧ (2 < n ∧ b2 / 64 = 2) ∧ (3 < n ∧ b3 / 64 = 2)
  · rw [if_pos g3] at h
    split at h
    · simp only [Prod.mk.injEq] at h
      obtain ⟨rfl, rfl⟩ := h
      obtain rfl := h1 (by omega)
      obtain rfl := h2 (by omega)
      obtain rfl := h3 (Nat.le_refl _)
      rw [if_neg (by omega), if_neg (by omega), if_pos ⟨g3.1, ⟨by omega, g3.2.1.2⟩, ⟨by omega, g3.2.2.1.2⟩, by omega, g3.2.2.2.2⟩, if_pos (by assumption)]
    · simp only [Prod.mk.injEq] at h; omega
  rw [if_neg g3] at h
  simp only [Prod.mk.injEq] at h; omega
theorem decode_pre (l more : B8) (hne : l ≠ []) (hg : ¬ ((Lib.decodeL l).1 = 65533 ∧ (Lib.decodeL l).2 = 1)) : Lib.decodeL (l.take (Lib.decodeL l).2 ++ more) = Lib.decodeL l := by
  have hk := Lib.decodeL_le l hne
  have hw := Lib.decodeL_width l
  generalize hK : (Lib.decodeL l).2 = k at *
  generalize hR : (Lib.decodeL l).1 = r at *
  have e : Lib.decodeL l = (r, k) := by rw [← hK, ← hR]
  rw [e]
  rw [Lib.decodeL_N] at e ⊢
  have g : ∀ i, i < k → (l.take k ++ more).getD i 0 = l.getD i 0 := fun i hi => by
    simp only [List.getD, List.getElem?_append_left (show i < (l.take k).length by rw [List.length_take]; omega), List.getElem?_take, if_pos hi]
  have hl : k ≤ (l.take k ++ more).length := by rw [List.length_append, List.length_take]; omega
  rw [g 0 (by omega)]
  exact decodeN_pre e hg hk hl (fun h => by rw [g 1 (by omega)]) (fun h => by rw [g 2 (by omega)]) (fun h => by rw [g 3 (by omega)])
theorem hasPrefix_app (p t : B8) : Lib.hasPrefix (p ++ t) p = true := (hasPrefix_iff _ _).2 ⟨t, rfl⟩
theorem takeWhile_stop (p : UInt8 → Bool) (a : B8) (b : UInt8) (t : B8) (ha : ∀ x ∈ a, p x = true) (hb : p b = false) : (a ++ b :: t).takeWhile p = a := by
  induction a with
  | nil => simp [hb]
  | cons x a ih => rw [List.cons_append, List.takeWhile_cons, if_pos (ha x (by simp)), ih (fun y hy => ha y (by simp [hy]))]
theorem hex_back : ∀ x : Fin 128, parse16 ((hexN x.val).map UInt8.ofNat) = some x.val ∧ ∀ b ∈ (hexN x.val).map UInt8.ofNat, (b != 125) = true := by
  have e : ∀ x : Fin 128, hexN x.val = (if x.val < 16 then [hd x.val] else [hd (x.val / 16), hd (x.val % 16)]) := fun x => by
    split
    · exact hexN_lo ‹_›
    · rw [hexN_hi ‹_›, hexN_lo (by omega)]; rfl
  intro x
  rw [e x]
  revert x
  decide +kernel
theorem decodeL_92 (t : B8) : (Lib.decodeL (92 :: t)).1 = 92 := by rw [Lib.decodeL_ascii 92 t (by decide)]; rfl
/-- The rune that stands where a rune was written. -/
theorem nx_qr (l rest : B8) (hne : l ≠ []) (hg : ¬ ((Lib.decodeL l).1 = 65533 ∧ (Lib.decodeL l).2 = 1)) :
    nx (qr (Lib.decodeL l).1 ++ rest) = (Lib.decodeL l).1 ∧ (Lib.decodeL (qr (Lib.decodeL l).1 ++ rest)).1 ≠ 34 := by
  have hE := Lib.encode_decode l hne hg
  have hP := decode_pre l rest hne hg
  generalize hR : (Lib.decodeL l).1 = r at *
  unfold qr
  by_cases h1 : r = 34 ∨ r = 92
  · rw [if_pos h1]
    have e : (Lib.decodeL ([92, UInt8.ofNat r] ++ rest)).1 = 92 := decodeL_92 _
    refine ⟨?_, by rw [e]; decide⟩
    unfold nx
    rw [if_pos e]
    rcases h1 with rfl | rfl <;> rfl
  rw [if_neg h1]
  by_cases h2 : r = 10
  · rw [if_pos h2]
    have e : (Lib.decodeL ([92, 110] ++ rest)).1 = 92 := decodeL_92 _
    refine ⟨?_, by rw [e]; decide⟩
    unfold nx
    rw [if_pos e]
    subst h2; rfl
  rw [if_neg h2]
  by_cases h3 : r < 32 ∨ r = 127
  · rw [if_pos h3]
    have e : (Lib.decodeL ([92, 117, 123] ++ (hexN r).map UInt8.ofNat ++ [125] ++ rest)).1 = 92 := decodeL_92 _
    refine ⟨?_, by rw [e]; decide⟩
    unfold nx
    rw [if_pos e]
    have hx := hex_back ⟨r, by omega⟩
    have e2 : ([92, 117, 123] ++ (hexN r).map UInt8.ofNat ++ [125] ++ rest : B8) = [92, 117, 123] ++ ((hexN r).map UInt8.ofNat ++ 125 :: rest) := by simp
    unfold meantS
    rw [e2, if_pos (hasPrefix_app _ _)]
    show (parse16 (List.takeWhile _ ((hexN r).map UInt8.ofNat ++ 125 :: rest))).getD 65533 = r
    rw [takeWhile_stop _ _ _ _ hx.2 (by decide), hx.1]
    rfl
  rw [if_neg h3, hE]
  have e : (Lib.decodeL (l.take (Lib.decodeL l).2 ++ rest)).1 = r := by rw [hP, hR]
  refine ⟨?_, by rw [e]; omega⟩
  unfold nx
  rw [if_neg (by rw [e]; omega), e]
theorem validD_on {l : B8} (hne : l ≠ []) (hv : Lib.validD l = true) : ¬ ((Lib.decodeL l).1 = 65533 ∧ (Lib.decodeL l).2 = 1) ∧ Lib.validD (l.drop (Lib.decodeL l).2) = true := by
  rw [Lib.validD_step l hne] at hv
  split at hv
  · cases hv
  · exact ⟨by assumption, hv⟩
theorem unq_body : ∀ (l more acc : B8) (n f : Nat), Lib.validD l = true → l.length + 1 ≤ f →
    unqF f (qbody l ++ 34 :: more) acc n = some (acc ++ l, n + (qbody l).length + 1)
  | l, more, acc, n, f, hv, hf => by
    obtain ⟨f, rfl⟩ : ∃ g, f = g + 1 := ⟨f - 1, by omega⟩
    by_cases hne : l = []
    · subst hne
      have e : (Lib.decodeL (qbody [] ++ 34 :: more)).1 = 34 := by
        show (Lib.decodeL (34 :: more)).1 = 34
        rw [Lib.decodeL_ascii 34 more (by decide)]; rfl
      show (if _ then _ else _) = _
      rw [if_neg (by simp), if_pos e, qbody_nil]
      simp
    · obtain ⟨hg, hv2⟩ := validD_on hne hv
      have hk := Lib.decodeL_le l hne
      have hw := Lib.decodeL_width l
      have hq := nx_qr l (qbody (l.drop (Lib.decodeL l).2) ++ 34 :: more) hne hg
      have hE := Lib.encode_decode l hne hg
      have hpl : 0 < l.length := List.length_pos_iff.2 hne
      have ih := unq_body (l.drop (Lib.decodeL l).2) more (acc ++ l.take (Lib.decodeL l).2) (n + (qr (Lib.decodeL l).1).length) f hv2 (by rw [List.length_drop]; omega)
      have hqb := qbody_step l hne
      have e : qbody l ++ 34 :: more = qr (Lib.decodeL l).1 ++ (qbody (l.drop (Lib.decodeL l).2) ++ 34 :: more) := by rw [hqb, List.append_assoc]
      rw [e]
      show (if _ then _ else _) = _
      have hqn : qr (Lib.decodeL l).1 ++ (qbody (l.drop (Lib.decodeL l).2) ++ 34 :: more) ≠ [] := by simp
      rw [if_neg hqn, if_neg hq.2, hq.1, if_pos (hasPrefix_app _ _), List.drop_left, hE, ih]
      congr 1
      rw [List.append_assoc, List.take_append_drop, hqb, List.length_append]
      congr 1
      omega
termination_by l => l.length
decreasing_by
  rw [List.length_drop]; omega
/-- A quoted text is read as it was written, whatever stands behind it. -/
theorem unquote_quote (l more : B8) (hv : Lib.validD l = true) : quoteS l = [34] ++ qbody l ++ [34] ∧ unquoteS (quoteS l ++ more) = some (l, (quoteS l).length) := by
  have e : quoteS l = [34] ++ qbody l ++ [34] := by unfold quoteS; rw [if_pos hv]
  refine ⟨e, ?_⟩
  have e2 : quoteS l ++ more = 34 :: (qbody l ++ 34 :: more) := by rw [e]; simp
  have hq : l.length ≤ (qbody l).length := qbody_len l hv
  have hp : Lib.hasPrefix (34 :: (qbody l ++ 34 :: more)) [34] = true := hasPrefix_app [34] _
  unfold unquoteS
  rw [e2, if_pos hp]
  show unqF _ (qbody l ++ 34 :: more) [] 1 = _
  rw [unq_body l more [] 1 _ hv (by simp; omega), e]
  simp
  omega
end Go.Proofs.YtlhodanpfpfodaaGreatDoor
