/-
  Labels as a text, as the document reads them, against the program's reading. No condition.
-/
import Derived.Test.YtlhodanpfpfodaaGreatDoorTBack
import Derived.Test.YtlhodanpfpfodaaGreatDoorQMath
namespace Go.Proofs.YtlhodanpfpfodaaGreatDoor
open Go.RowKit Go.Icz
theorem mem_tw {p : UInt8 → Bool} : ∀ {l : B8} {c : UInt8}, c ∈ l.takeWhile p → p c = true
  | [], c, h => by simp at h
  | b :: l, c, h => by
    rw [List.takeWhile_cons] at h
    split at h
    · rcases List.mem_cons.1 h with rfl | h
      · assumption
      · exact mem_tw h
    · simp at h
def wordch (b : UInt8) : Bool := letter b.toNat || digit b.toNat
/-- The document's round: from a place on, the labels and what is left. -/
def rloop : Nat → B8 → List Lab → Option (List Lab × B8)
  | 0, _, _ => none
  | f + 1, s, acc =>
    match trimL ((trimL s).dropWhile wordch) with
    | 61 :: s2 =>
      match runquoteS (trimL s2) with
      | some (v, n) => if acc.length < 16 then
          (match trimL ((trimL s2).drop n) with
            | 44 :: s4 => rloop f s4 (acc ++ [((trimL s).takeWhile wordch, v)])
            | s3 => some (acc ++ [((trimL s).takeWhile wordch, v)], s3))
        else none
      | none => none
    | _ => none
def rparseS (s : B8) : Option (List Lab) :=
  match trimL s with
  | 123 :: t => match rloop (s.length + 1) t [] with
    | some (l, 125 :: u) => if trimL u = [] then some l else none
    | _ => none
  | _ => none
theorem signS_eq (l : B8) (c : UInt8) : (∃ t, trimL l = c :: t ∧ signS l c = (trimL t, true)) ∨ ((∀ t, trimL l ≠ c :: t) ∧ signS l c = (l, false)) := by
  unfold signS
  by_cases h : Lib.hasPrefix (trimL l) [c] = true
  · obtain ⟨t, ht⟩ := (hasPrefix_iff _ _).1 h
    exact .inl ⟨t, ht, by rw [if_pos h, ht]; rfl⟩
  · refine .inr ⟨fun t ht => h (by rw [ht]; exact hasPrefix_app [c] t), by rw [if_neg h]⟩
theorem trimL_split (l : B8) : ∃ b : B8, (∀ c ∈ b, c = 32) ∧ l = b ++ trimL l := by
  induction l with
  | nil => exact ⟨[], by simp, rfl⟩
  | cons c t ih =>
    by_cases h : c = 32
    · obtain ⟨b, h1, h2⟩ := ih
      refine ⟨c :: b, by simpa using ⟨h, h1⟩, ?_⟩
      have e : trimL (c :: t) = trimL t := by subst h; exact trimL_blank t
      rw [e, List.cons_append, ← h2]
    · exact ⟨[], by simp, by rw [trimL_head h]; rfl⟩
theorem trimL_trim (l : B8) : trimL (trimL l) = trimL l := by
  unfold trimL Lib.trimLeftB
  induction l with
  | nil => rfl
  | cons c t ih =>
    by_cases h : (c == 32) = true
    · rw [List.dropWhile_cons, if_pos h]; exact ih
    · rw [List.dropWhile_cons, if_neg h, List.dropWhile_cons, if_neg h]
theorem trimL_le (l : B8) : (trimL l).length ≤ l.length := by
  obtain ⟨b, _, h⟩ := trimL_split l
  have := congrArg List.length h
  rw [List.length_append] at this
  omega
theorem trimR_split (l : B8) : ∃ b : B8, (∀ c ∈ b, c = 32) ∧ l = trimR l ++ b := by
  obtain ⟨b, h1, h2⟩ := trimL_split l.reverse
  refine ⟨b.reverse, fun c hc => h1 c (by simpa using hc), ?_⟩
  have e : trimR l = (trimL l.reverse).reverse := rfl
  rw [e, ← List.reverse_append, ← h2, List.reverse_reverse]
theorem trimR_blanks {w b : B8} (hw : ∀ c ∈ w, c ≠ 32) (hb : ∀ c ∈ b, c = 32) : trimR (w ++ b) = w := by
  have e : trimR (w ++ b) = (trimL (w ++ b).reverse).reverse := rfl
  have h : ∀ (b v : B8), (∀ c ∈ b, c = 32) → trimL (b ++ v) = trimL v := fun b v hb => by
    induction b with
    | nil => rfl
    | cons c t ih =>
      have := hb c (by simp)
      subst this
      rw [List.cons_append, trimL_blank]
      exact ih fun c hc => hb c (by simp [hc])
  rw [e, List.reverse_append, h _ _ fun c hc => hb c (by simpa using hc)]
  have h2 := trimR_good (a := w) hw
  exact h2
theorem word_good {c : UInt8} (h : wordch c = true) : c ≠ 32 ∧ c ≠ 61 := by
  constructor
  · rintro rfl; exact absurd h (by decide)
  · rintro rfl; exact absurd h (by decide)
theorem name_word : ∀ (l : B8) (i : Nat), nameTail i l = true → ∀ b ∈ l, wordch b = true
  | [], _, _, b, hb => by simp at hb
  | c :: t, i, h, b, hb => by
    simp only [nameTail, Bool.and_eq_true, Bool.or_eq_true] at h
    rcases List.mem_cons.1 hb with rfl | hb
    · unfold wordch
      rcases h.1 with h | h
      · rw [h]; rfl
      · rw [h.1]; simp
    · exact name_word t _ h.2 b hb
theorem takeWhile_all {p : UInt8 → Bool} : ∀ (a : B8) (t : B8), (∀ x ∈ a, p x = true) → (∀ b u, t = b :: u → p b = false) → (a ++ t).takeWhile p = a ∧ (a ++ t).dropWhile p = t
  | [], t, _, ht => by
    cases t with
    | nil => exact ⟨rfl, rfl⟩
    | cons b u => simp [ht b u rfl]
  | c :: a, t, ha, ht => by
    obtain ⟨h1, h2⟩ := takeWhile_all a t (fun x hx => ha x (by simp [hx])) ht
    rw [List.cons_append, List.takeWhile_cons, if_pos (ha c (by simp)), List.dropWhile_cons, if_pos (ha c (by simp)), h1, h2]
    exact ⟨rfl, rfl⟩
theorem runquote_nil : runquoteS [] = none := rfl
theorem loop_from : ∀ (g : Nat) (s : B8) (acc l : List Lab) (r : B8) (f : Nat), rloop g s acc = some (l, r) → (trimL s).length < f → acc.length ≤ 16 →
    l.length ≤ 16 ∧ ∃ r', loopS f (trimL s) acc = some (l, r') ∧ trimL r' = r ∧ ∀ t, r ≠ 44 :: t
  | 0, s, acc, l, r, f, h, _, _ => by cases h
  | g + 1, s, acc, l, r, f, h, hf, ha => by
    obtain ⟨f, rfl⟩ : ∃ k, f = k + 1 := ⟨f - 1, by omega⟩
    unfold rloop at h
    split at h
    · rename_i s2 h2
      split at h
      · rename_i v n hq
        split at h
        · rename_i hlt
          obtain ⟨b, hb, hs⟩ := trimL_split ((trimL s).dropWhile wordch)
          rw [h2] at hs
          have hw : ∀ c ∈ (trimL s).takeWhile wordch, wordch c = true := fun c hc => mem_tw hc
          have hsp : trimL s = ((trimL s).takeWhile wordch ++ b) ++ 61 :: s2 := by
            rw [List.append_assoc, ← hs, List.takeWhile_append_dropWhile]
          have hc := cut_name (a := (trimL s).takeWhile wordch ++ b) (fun c hc => by
            rcases List.mem_append.1 hc with h | h
            · exact (word_good (hw c h)).2
            · rw [hb c h]; decide) s2
          rw [← hsp] at hc
          have hp : pairS (trimL s) = some (((trimL s).takeWhile wordch, v), (trimL s2).drop n) := by
            unfold pairS
            rw [hc.1, hc.2, unquote_eq, hq, trimR_blanks (fun c h => (word_good (hw c h)).1) hb]
          have hl : (trimL s2).length < (trimL s).length := by
            have e := congrArg List.length hsp
            have := trimL_le s2
            simp only [List.length_append, List.length_cons] at e
            omega
          generalize (trimL s).takeWhile wordch = w at *
          have hstep : loopS (f + 1) (trimL s) acc = if (signS ((trimL s2).drop n) 44).2 = true then loopS f (signS ((trimL s2).drop n) 44).1 (acc ++ [(w, v)]) else some (acc ++ [(w, v)], (signS ((trimL s2).drop n) 44).1) := by
            show (match pairS (trimL s) with | none => none | some (x, r) => _) = _
            rw [hp]
          rw [hstep]
          split at h
          · rename_i s4 h4
            rcases signS_eq ((trimL s2).drop n) 44 with ⟨t, e1, e2⟩ | ⟨e1, _⟩
            · rw [h4] at e1
              obtain rfl : s4 = t := by simpa using e1
              rw [e2]
              have h5 := congrArg List.length h4
              have h6 := trimL_le ((trimL s2).drop n)
              have h7 := trimL_le s4
              rw [List.length_drop] at h6
              simp only [List.length_cons] at h5
              exact loop_from g s4 _ l r f h (by omega) (by simp; omega)
            · exact absurd h4 (e1 _)
          · rename_i h4
            simp only [Option.some.injEq, Prod.mk.injEq] at h
            rcases signS_eq ((trimL s2).drop n) 44 with ⟨t, e1, e2⟩ | ⟨e1, e2⟩
            · exact absurd e1 (h4 t)
            · rw [e2, ← h.1, ← h.2]
              exact ⟨by simp; omega, _, rfl, rfl, e1⟩
        · cases h
      · cases h
    · cases h
theorem loopS_acc : ∀ (f : Nat) (s : B8) (acc l : List Lab) (r : B8), loopS f s acc = some (l, r) → ∃ x t, l = acc ++ x :: t
  | 0, _, _, _, _, h => by cases h
  | f + 1, s, acc, l, r, h => by
    unfold loopS at h
    split at h
    · cases h
    · split at h
      · obtain ⟨y, t, e⟩ := loopS_acc f _ _ l r h
        exact ⟨_, y :: t, by rw [e, List.append_assoc]; rfl⟩
      · simp only [Option.some.injEq, Prod.mk.injEq] at h
        exact ⟨_, [], h.1.symm⟩
theorem loop_to : ∀ (f : Nat) (s : B8) (acc l : List Lab) (r' : B8) (g : Nat), loopS f (trimL s) acc = some (l, r') → (trimL s).length < g → l.length ≤ 16 → (∀ x ∈ l, nameS x.1 = true) →
    rloop g s acc = some (l, trimL r')
  | 0, s, acc, l, r', g, h, _, _, _ => by cases h
  | f + 1, s, acc, l, r', g, h, hg, hl, hn => by
    obtain ⟨g, rfl⟩ : ∃ k, g = k + 1 := ⟨g - 1, by omega⟩
    obtain ⟨x, t, hxt⟩ := loopS_acc _ _ _ _ _ h
    have hacc : acc.length < 16 := by
      have := congrArg List.length hxt
      simp at this
      omega
    unfold loopS at h
    split at h
    · cases h
    · rename_i x' r hp
      have hx' : x' = x := by
        split at h
        · obtain ⟨y, t', e⟩ := loopS_acc f _ _ l _ h
          rw [e, List.append_assoc] at hxt
          have := List.append_cancel_left hxt
          simp only [List.cons_append, List.cons.injEq] at this
          exact this.1
        · simp only [Option.some.injEq, Prod.mk.injEq] at h
          rw [← h.1] at hxt
          have := List.append_cancel_left hxt
          simp only [List.cons.injEq] at this
          exact this.1
      subst hx'
      have hnx := hn x' (by rw [hxt]; simp)
      have hpe := hp
      unfold pairS at hp
      split at hp
      · rename_i v n hq
        simp only [Option.some.injEq, Prod.mk.injEq] at hp
        obtain ⟨rfl, rfl⟩ := hp
        simp only at hnx
        -- the sign stands there
        have h61 : ∃ s2, trimL s = before (trimL s) 61 ++ 61 :: s2 ∧ after (trimL s) 61 = s2 := by
          have e := List.takeWhile_append_dropWhile (p := fun b : UInt8 => b != 61) (l := trimL s)
          cases hd : (trimL s).dropWhile (· != 61) with
          | nil =>
            have : after (trimL s) 61 = [] := by unfold after; rw [hd]; rfl
            rw [this] at hq
            exact absurd hq (by rw [show unquoteS (trimL []) = none from rfl]; simp)
          | cons c u =>
            have hc : c = 61 := by
              have := List.head?_dropWhile_not (p := fun b : UInt8 => b != 61) (l := trimL s)
              rw [hd] at this
              simpa using this
            subst hc
            refine ⟨u, ?_, by unfold after; rw [hd]; rfl⟩
            unfold before
            rw [← hd, e]
        obtain ⟨s2, h1, h2⟩ := h61
        obtain ⟨b, hb, hbe⟩ := trimR_split (before (trimL s) 61)
        have hnw := name_word _ 0 (by simp only [nameS, Bool.and_eq_true] at hnx; exact hnx.2)
        have htw := takeWhile_all (p := wordch) (trimR (before (trimL s) 61)) (b ++ 61 :: s2) hnw (fun c u e => by
          cases b with
          | nil => simp at e; rw [← e.1]; decide
          | cons d b' =>
            have := hb d (by simp)
            simp at e
            rw [← e.1, this]; decide)
        rw [← List.append_assoc, ← hbe, ← h1] at htw
        have htr : trimL (b ++ 61 :: s2) = 61 :: s2 := by
          clear htw hbe
          induction b with
          | nil => exact trimL_head (by decide) _
          | cons d b' ih =>
            have := hb d (by simp)
            subst this
            rw [List.cons_append, trimL_blank]
            exact ih fun c hc => hb c (by simp [hc])
        rw [h2, unquote_eq] at hq
        have hll : (trimL s2).length < (trimL s).length := by
          have e := congrArg List.length h1
          have := trimL_le s2
          simp only [List.length_append, List.length_cons] at e
          omega
        unfold rloop
        rw [htw.2, htr]
        simp only [hq, if_pos hacc, htw.1]
        rw [h2] at h
        rcases signS_eq ((trimL s2).drop n) 44 with ⟨u, e1, e2⟩ | ⟨e1, e2⟩
        · rw [e2] at h
          simp only [if_true] at h
          rw [e1]
          have h5 := congrArg List.length e1
          have h6 := trimL_le ((trimL s2).drop n)
          have h7 := trimL_le u
          rw [List.length_drop] at h6
          simp only [List.length_cons] at h5
          exact loop_to f u _ l r' g h (by omega) hl hn
        · rw [e2] at h
          simp only [Bool.false_eq_true, if_false, Option.some.injEq, Prod.mk.injEq] at h
          rw [← h.1, ← h.2]
          split
          · rename_i u hu
            exact absurd hu (e1 u)
          · rfl
      · cases hp
theorem parse_from {s : B8} {l : List Lab} (h : rparseS s = some l) : parseS s = some l ∧ l.length ≤ 16 := by
  unfold rparseS at h
  split at h
  · rename_i t ht
    split at h
    · rename_i l' u hl
      split at h
      · rename_i hu
        simp only [Option.some.injEq] at h
        subst h
        rcases signS_eq s 123 with ⟨t', e1, e2⟩ | ⟨e1, _⟩
        · rw [ht] at e1
          obtain rfl : t = t' := by simpa using e1
          obtain ⟨h16, r', h1, h2, h3⟩ := loop_from _ t [] l' _ ((trimL t).length + 1) hl (by omega) (by simp)
          refine ⟨?_, h16⟩
          unfold parseS
          rw [e2]
          simp only [if_true]
          rw [h1]
          show (if (signS r' 125).2 = true ∧ (signS r' 125).1 = [] then some l' else none) = _
          rcases signS_eq r' 125 with ⟨t2, g1, g2⟩ | ⟨g1, _⟩
          · rw [h2] at g1
            obtain rfl : u = t2 := by simpa using g1
            rw [g2, if_pos ⟨rfl, hu⟩]
          · exact absurd h2 (g1 u)
        · exact absurd ht (e1 t)
      · cases h
    · cases h
  · cases h
theorem parse_to {s : B8} {l : List Lab} (h : parseS s = some l) (hn : ∀ x ∈ l, nameS x.1 = true) (hl : l.length ≤ 16) : rparseS s = some l := by
  unfold parseS at h
  rcases signS_eq s 123 with ⟨t, e1, e2⟩ | ⟨_, e2⟩
  · rw [e2] at h
    simp only [if_true] at h
    cases hL : loopS ((trimL t).length + 1) (trimL t) [] with
    | none => rw [hL] at h; cases h
    | some y =>
      obtain ⟨l', r'⟩ := y
      rw [hL] at h
      have h' : (if (signS r' 125).2 = true ∧ (signS r' 125).1 = [] then some l' else none) = some l := h
      split at h'
      · rename_i hc
        simp only [Option.some.injEq] at h'
        subst h'
        have hs := trimL_le s
        have ht := trimL_le t
        have e3 := congrArg List.length e1
        simp only [List.length_cons] at e3
        have := loop_to _ t [] l' r' (s.length + 1) hL (by omega) hl hn
        rcases signS_eq r' 125 with ⟨u, g1, g2⟩ | ⟨_, g2⟩
        · rw [g2] at hc
          unfold rparseS
          rw [e1]
          simp only [this, g1]
          rw [if_pos hc.2]
        · rw [g2] at hc
          exact absurd hc.1 (by simp)
      · cases h'
  · rw [e2] at h
    exact absurd h (by simp)
end Go.Proofs.YtlhodanpfpfodaaGreatDoor
