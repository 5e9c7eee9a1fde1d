/-
  Patterns: what fits, and the two ways to find out. No condition.
  What matcher's fits answers: whether the signs fit all of the runes. Conditions: the lists can be read.
-/
import Derived.Test.YtlhodanpfpfodaaGreatDoorText
import Derived.Test.YtlhodanpfpfodaaGreatDoorGRow
import Derived.Test.YtlhodanpfpfodaaGreatDoorBase
import Derived.Test.YtlhodanpfpfodaaGreatDoorName
import Derived.Deep.QuietTactic
import Derived.BigQuiet
namespace Gl
/-- A sign of a pattern. -/
inductive Sg where
  | any | one | lit (r : Nat)
  deriving DecidableEq, Repr
def Sg.hits : Sg → Nat → Bool
  | .any, _ => false
  | .one, _ => true
  | .lit r, c => r == c
/-- Whether the signs fit all of the runes. -/
def fit : List Sg → List Nat → Bool
  | [], [] => true
  | [], _ :: _ => false
  | .any :: p, [] => fit p []
  | .any :: p, c :: t => fit p (c :: t) || fit (.any :: p) t
  | .one :: _, [] => false
  | .one :: p, _ :: t => fit p t
  | .lit _ :: _, [] => false
  | .lit r :: p, c :: t => r == c && fit p t
termination_by p s => (p.length, s.length)
theorem fit_any (p : List Sg) (s : List Nat) : fit (.any :: p) s = true ↔ ∃ k, k ≤ s.length ∧ fit p (s.drop k) = true := by
  induction s with
  | nil =>
    rw [fit]
    constructor
    · intro h; exact ⟨0, by simp, by simpa using h⟩
    · rintro ⟨k, _, h⟩; simpa using h
  | cons c t ih =>
    rw [fit, Bool.or_eq_true, ih]
    constructor
    · rintro (h | ⟨k, hk, h⟩)
      · exact ⟨0, by simp, by simpa using h⟩
      · exact ⟨k + 1, by simp; omega, by simpa using h⟩
    · rintro ⟨k, hk, h⟩
      cases k with
      | zero => exact .inl (by simpa using h)
      | succ k => exact .inr ⟨k, by simp at hk; omega, by simpa using h⟩
theorem fit_sign {g : Sg} (hg : g ≠ .any) (p : List Sg) (s : List Nat) : fit (g :: p) s = true ↔ ∃ c t, s = c :: t ∧ g.hits c = true ∧ fit p t = true := by
  cases g with
  | any => exact absurd rfl hg
  | one =>
    cases s with
    | nil => rw [fit]; simp
    | cons c t =>
      rw [fit]
      constructor
      · intro h; exact ⟨c, t, rfl, rfl, h⟩
      · rintro ⟨_, _, e, _, h⟩; injection e with e1 e2; subst e2; exact h
  | lit r =>
    cases s with
    | nil => rw [fit]; simp
    | cons c t =>
      rw [fit, Bool.and_eq_true]
      constructor
      · rintro ⟨h1, h2⟩; exact ⟨c, t, rfl, h1, h2⟩
      · rintro ⟨_, _, e, h1, h2⟩; injection e with e1 e2; subst e1 e2; exact ⟨h1, h2⟩
theorem fit_nil (s : List Nat) : fit [] s = true ↔ s = [] := by
  cases s with
  | nil => simp [fit]
  | cons => simp [fit]
theorem fit_app : ∀ (p q : List Sg) (s : List Nat), fit (p ++ q) s = true ↔ ∃ k, k ≤ s.length ∧ fit p (s.take k) = true ∧ fit q (s.drop k) = true
  | [], q, s => by
    constructor
    · intro h; exact ⟨0, by simp, by simp [fit], by simpa using h⟩
    · rintro ⟨k, hk, h1, h2⟩
      rw [fit_nil] at h1
      have : (s.take k).length = 0 := by rw [h1]; rfl
      rw [List.length_take] at this
      have hk0 : k = 0 := by omega
      subst hk0
      simpa using h2
  | g :: p, q, s => by
    by_cases hg : g = .any
    · subst hg
      rw [List.cons_append, fit_any]
      constructor
      · rintro ⟨k, hk, h⟩
        obtain ⟨j, hj, h1, h2⟩ := (fit_app p q _).1 h
        rw [List.length_drop] at hj
        refine ⟨k + j, by omega, (fit_any _ _).2 ⟨k, by rw [List.length_take]; omega, ?_⟩, by rwa [List.drop_drop] at h2⟩
        rw [List.drop_take]
        rwa [show k + j - k = j by omega]
      · rintro ⟨m, hm, h1, h2⟩
        obtain ⟨k, hk, h3⟩ := (fit_any _ _).1 h1
        rw [List.length_take] at hk
        rw [List.drop_take] at h3
        refine ⟨k, by omega, (fit_app p q _).2 ⟨m - k, by rw [List.length_drop]; omega, h3, ?_⟩⟩
        rw [List.drop_drop, show k + (m - k) = m by omega]
        exact h2
    · rw [List.cons_append, fit_sign hg]
      constructor
      · rintro ⟨c, t, rfl, hc, h⟩
        obtain ⟨j, hj, h1, h2⟩ := (fit_app p q _).1 h
        refine ⟨j + 1, by simp; omega, ?_, by simpa using h2⟩
        rw [List.take_succ_cons, fit_sign hg]
        exact ⟨c, _, rfl, hc, h1⟩
      · rintro ⟨m, hm, h1, h2⟩
        obtain ⟨c, t, e, hc, h3⟩ := (fit_sign hg _ _).1 h1
        cases s with
        | nil => simp at e
        | cons d u =>
          cases m with
          | zero => simp at e
          | succ m =>
            rw [List.take_succ_cons] at e
            injection e with e1 e2
            subst e1 e2
            exact ⟨_, u, rfl, hc, (fit_app p q u).2 ⟨m, by simp at hm; omega, h3, by simpa using h2⟩⟩
theorem drop_cons {α : Type} {l : List α} {i : Nat} (h : i < l.length) : l.drop i = l[i] :: l.drop (i + 1) := List.drop_eq_getElem_cons h
/-- Where the program's walk stands. st: behind the last star, and where in s it is tried; none: no star was met. -/
def At (p : List Sg) (s : List Nat) (a i : Nat) (st : Option (Nat × Nat)) : Prop :=
  a ≤ p.length ∧ i ≤ s.length ∧
  match st with
  | none => a = i ∧ (fit p s = fit (p.drop a) (s.drop i))
  | some (b, f) => b ≤ a ∧ 1 ≤ b ∧ f + (a - b) = i ∧ (∀ j (_ : b ≤ j) (hj : j < a) (hp : j < p.length), p[j] ≠ .any) ∧
      (fit p s = true ↔ ∃ k, f ≤ k ∧ k ≤ s.length ∧ fit (p.drop b) (s.drop k) = true) ∧
      (fit (p.drop b) (s.drop f) = fit (p.drop a) (s.drop i))
theorem At.start (p : List Sg) (s : List Nat) : At p s 0 0 none := ⟨by omega, by omega, rfl, by simp⟩
/-- Signs that are no stars take one rune each. -/
theorem seg (p : List Sg) (s : List Nat) : ∀ (n b k : Nat), (∀ j (_ : b ≤ j) (_ : j < b + n) (hp : j < p.length), p[j] ≠ .any) → b + n ≤ p.length → fit (p.drop b) (s.drop k) = true → k ≤ s.length →
    k + n ≤ s.length ∧ fit (p.drop (b + n)) (s.drop (k + n)) = true
  | 0, b, k, _, _, h, hk => ⟨by omega, h⟩
  | n + 1, b, k, hs, hb, h, hk => by
    rw [drop_cons (by omega : b < p.length)] at h
    obtain ⟨c, t, e, _, h2⟩ := (fit_sign (hs b (by omega) (by omega) (by omega)) _ _).1 h
    have hlt : k < s.length := by
      rcases Nat.lt_or_ge k s.length with h | h
      · exact h
      · rw [List.drop_of_length_le h] at e; cases e
    rw [drop_cons hlt] at e
    injection e with e1 e2
    subst e2
    have := seg p s n (b + 1) (k + 1) (fun j h1 h2 hp => hs j (by omega) (by omega) hp) (by omega) h2 (by omega)
    exact ⟨by omega, by rw [show b + (n + 1) = b + 1 + n by omega, show k + (n + 1) = k + 1 + n by omega]; exact this.2⟩
theorem At.star {p : List Sg} {s : List Nat} {a i : Nat} {st} (h : At p s a i st) (ha : a < p.length) (hst : p[a] = .any) : At p s (a + 1) i (some (a + 1, i)) := by
  obtain ⟨h1, h2, h3⟩ := h
  refine ⟨by omega, h2, by omega, by omega, by omega, fun j x y => by omega, ?_, rfl⟩
  have hd : p.drop a = .any :: p.drop (a + 1) := by rw [drop_cons ha, hst]
  have step : fit (p.drop a) (s.drop i) = true ↔ ∃ k, i ≤ k ∧ k ≤ s.length ∧ fit (p.drop (a + 1)) (s.drop k) = true := by
    rw [hd, fit_any]
    constructor
    · rintro ⟨k, hk, hh⟩
      rw [List.length_drop] at hk
      rw [List.drop_drop] at hh
      exact ⟨i + k, by omega, by omega, hh⟩
    · rintro ⟨k, hk1, hk2, hh⟩
      exact ⟨k - i, by rw [List.length_drop]; omega, by rw [List.drop_drop, show i + (k - i) = k by omega]; exact hh⟩
  match st, h3 with
  | none, ⟨_, e⟩ => rw [e]; exact step
  | some (b, f), ⟨b1, b2, b3, hs, hw, he⟩ =>
    rw [hw]
    constructor
    · rintro ⟨k, hk1, hk2, hh⟩
      have e0 : b + (a - b) = a := by clear hs hw he hh step hd hst; omega
      have := seg p s (a - b) b k (fun j x y hp => hs j x (by clear hs hw he hh step hd hst; omega) hp) (by clear hs hw he hh step hd hst; omega) hh hk2
      rw [e0] at this
      obtain ⟨h5, h6⟩ := this
      rw [hd, fit_any] at h6
      obtain ⟨j, hj, h7⟩ := h6
      rw [List.length_drop] at hj
      rw [List.drop_drop] at h7
      clear hs hw he hh step hd hst
      exact ⟨k + (a - b) + j, by omega, by omega, h7⟩
    · intro hh
      have := step.2 hh
      rw [← he] at this
      clear hs hw he hh step hd hst
      exact ⟨f, by omega, by omega, this⟩
theorem At.hit {p : List Sg} {s : List Nat} {a i : Nat} {st} (h : At p s a i st) (ha : a < p.length) (hi : i < s.length) (hn : p[a] ≠ .any) (hh : (p[a]).hits s[i] = true) : At p s (a + 1) (i + 1) st := by
  obtain ⟨h1, h2, h3⟩ := h
  have step : fit (p.drop a) (s.drop i) = fit (p.drop (a + 1)) (s.drop (i + 1)) := by
    rw [Bool.eq_iff_iff, drop_cons ha, fit_sign hn, drop_cons hi]
    constructor
    · rintro ⟨c, t, e, _, h⟩; injection e with e1 e2; subst e2; exact h
    · intro h; exact ⟨_, _, rfl, hh, h⟩
  refine ⟨by omega, by omega, ?_⟩
  match st, h3 with
  | none, ⟨e0, e⟩ => exact ⟨by omega, by rw [e, step]⟩
  | some (b, f), ⟨b1, b2, b3, hs, hw, he⟩ =>
    have b4 : f + (a + 1 - b) = i + 1 := by clear hs hw he step hn hh; omega
    refine ⟨by omega, b2, b4, fun j x y hp => ?_, hw, by rw [he, step]⟩
    rcases Nat.lt_or_ge j a with hj | hj
    · exact hs j x hj hp
    · obtain rfl : j = a := by omega
      exact hn
theorem miss {p : List Sg} {s : List Nat} {a i : Nat} (hi : i < s.length) (hm : ∀ (ha : a < p.length), p[a] ≠ .any ∧ (p[a]).hits s[i] = false) : fit (p.drop a) (s.drop i) = false := by
  rw [Bool.eq_false_iff]
  intro h
  rw [drop_cons hi] at h
  rcases Nat.lt_or_ge a p.length with ha | ha
  · rw [drop_cons ha] at h
    obtain ⟨c, t, e, h1, _⟩ := (fit_sign (hm ha).1 _ _).1 h
    injection e with e1 e2
    subst e1
    rw [(hm ha).2] at h1
    cases h1
  · rw [List.drop_of_length_le ha, fit_nil] at h
    cases h
theorem At.no {p : List Sg} {s : List Nat} {a i : Nat} (h : At p s a i none) (hi : i < s.length) (hm : ∀ (ha : a < p.length), p[a] ≠ .any ∧ (p[a]).hits s[i] = false) : fit p s = false := by
  obtain ⟨h1, h2, _, e⟩ := h
  rw [e, miss hi hm]
theorem At.again {p : List Sg} {s : List Nat} {a i b f : Nat} (h : At p s a i (some (b, f))) (hi : i < s.length) (hm : ∀ (ha : a < p.length), p[a] ≠ .any ∧ (p[a]).hits s[i] = false) : At p s b (f + 1) (some (b, f + 1)) := by
  obtain ⟨h1, h2, b1, b2, b3, hs, hw, he⟩ := h
  refine ⟨by omega, by omega, by omega, b2, by omega, fun j x y => by omega, ?_, rfl⟩
  rw [hw]
  constructor
  · rintro ⟨k, hk1, hk2, hh⟩
    refine ⟨k, ?_, hk2, hh⟩
    rcases Nat.lt_or_ge f k with h | h
    · exact h
    · obtain rfl : k = f := by omega
      rw [he, miss hi hm] at hh
      cases hh
  · rintro ⟨k, hk1, hk2, hh⟩
    exact ⟨k, by omega, hk2, hh⟩
theorem At.done {p : List Sg} {s : List Nat} {a i : Nat} {st} (h : At p s a i st) (hi : i = s.length) : fit p s = fit (p.drop a) [] := by
  obtain ⟨h1, h2, h3⟩ := h
  have hd : s.drop i = [] := List.drop_of_length_le (by omega)
  match st, h3 with
  | none, ⟨_, e⟩ => rw [e, hd]
  | some (b, f), ⟨b1, b2, b3, hs, hw, he⟩ =>
    rw [← hd, ← he, Bool.eq_iff_iff, hw]
    constructor
    · rintro ⟨k, hk1, hk2, hh⟩
      have := seg p s (a - b) b k (fun j x y hp => hs j x (by omega) hp) (by omega) hh hk2
      obtain rfl : k = f := by omega
      exact hh
    · intro hh; exact ⟨f, by omega, by omega, hh⟩
theorem end_star {p : List Sg} {a : Nat} (ha : a < p.length) (hs : p[a] = .any) : fit (p.drop a) [] = fit (p.drop (a + 1)) [] := by
  rw [drop_cons ha, hs, fit]
theorem end_no {p : List Sg} {a : Nat} (ha : a < p.length) (hs : p[a] ≠ .any) : fit (p.drop a) [] = false := by
  rw [drop_cons ha, Bool.eq_false_iff]
  intro h
  obtain ⟨c, t, e, _⟩ := (fit_sign hs _ _).1 h
  cases e
theorem end_all {p : List Sg} {a : Nat} (ha : p.length ≤ a) : fit (p.drop a) [] = true := by
  rw [List.drop_of_length_le ha, fit]
/-- What falls at each round of the program's walk. -/
def meas (p s : Nat) (i : Nat) : Option (Nat × Nat) → Nat
  | none => ((p + 2) * (s + 2) + s) * (s + 2) + (s - i)
  | some (b, f) => ((p + 1 - b) * (s + 2) + (s - f)) * (s + 2) + (s - i)
theorem lex {A B C D x y S : Nat} (h : A * S + C < B * S + D ∨ (A * S + C = B * S + D ∧ x < y)) (hx : x < S) : (A * S + C) * S + x < (B * S + D) * S + y := by
  rcases h with h | ⟨h, h2⟩
  · have : (A * S + C + 1) * S ≤ (B * S + D) * S := Nat.mul_le_mul_right _ h
    rw [Nat.add_mul, Nat.one_mul] at this
    omega
  · rw [h]; omega
theorem meas_star {p s a i : Nat} {st} (hi : i ≤ s) (ha : a < p) (hb : ∀ b f, st = some (b, f) → b ≤ a) : meas p s i (some (a + 1, i)) < meas p s i st := by
  have key : ∀ A B C D : Nat, A < B → C < s + 2 → A * (s + 2) + C < B * (s + 2) + D := fun A B C D h hc => by
    have : (A + 1) * (s + 2) ≤ B * (s + 2) := Nat.mul_le_mul_right _ h
    rw [Nat.add_mul, Nat.one_mul] at this
    omega
  match st with
  | none => exact lex (.inl (key _ _ _ _ (by omega) (by omega))) (by omega)
  | some (b, f) =>
    have := hb b f rfl
    exact lex (.inl (key _ _ _ _ (by omega) (by omega))) (by omega)
theorem meas_hit {p s i : Nat} {st} (hi : i < s) : meas p s (i + 1) st < meas p s i st := by
  match st with
  | none => exact lex (.inr ⟨rfl, by omega⟩) (by omega)
  | some (b, f) => exact lex (.inr ⟨rfl, by omega⟩) (by omega)
theorem meas_again {p s i b f : Nat} (hf : f < s) : meas p s (f + 1) (some (b, f + 1)) < meas p s i (some (b, f)) := by
  exact lex (.inl (by omega)) (by omega)
/-- What stands in a pattern, sign by sign. -/
inductive Tok where
  | sg (g : Sg) | bar
  deriving DecidableEq, Repr
def signOf (r : Nat) : Sg := if r = 42 then .any else if r = 63 then .one else .lit r
def toks : List Nat → List Tok
  | [] => []
  | [r] => if r = 124 then [.bar] else [.sg (signOf r)]
  | r :: q :: t => if r = 92 then .sg (.lit q) :: toks t else if r = 124 then .bar :: toks (q :: t) else .sg (signOf r) :: toks (q :: t)
def split : List Tok → List Sg → List (List Sg)
  | [], acc => [acc]
  | .sg g :: t, acc => split t (acc ++ [g])
  | .bar :: t, acc => acc :: split t []
def globR (p s : List Nat) : Bool := (split (toks p) []).any fun q => fit q s
theorem toks_sign {r : Nat} (h : r ≠ 92) (h2 : r ≠ 124) (t : List Nat) : toks (r :: t) = .sg (signOf r) :: toks t := by
  cases t with
  | nil => simp [toks, h2]
  | cons => simp [toks, h, h2]
theorem toks_bar (t : List Nat) : toks (124 :: t) = .bar :: toks t := by
  cases t with
  | nil => simp [toks]
  | cons => simp [toks]
theorem toks_esc (r : Nat) (t : List Nat) : toks (92 :: r :: t) = .sg (.lit r) :: toks t := by simp [toks]
theorem toks_last : toks [92] = [.sg (.lit 92)] := rfl
/-- Where the program stands in a pattern: the parts behind it, the signs of this one, whether a backslash stands ahead. -/
def PAt (p rest : List Nat) (all : List (List Sg)) (part : List Sg) (esc : Bool) : Prop :=
  split (toks p) [] = all ++ split (toks (if esc then 92 :: rest else rest)) part
theorem PAt.start (p : List Nat) : PAt p p [] [] false := rfl
theorem PAt.escaped {p rest all part r} (h : PAt p (r :: rest) all part true) : PAt p rest all (part ++ [.lit r]) false := by
  unfold PAt at *
  rw [h]
  simp only [if_true, Bool.false_eq_true, if_false]
  rw [toks_esc]
  rfl
theorem PAt.slash {p rest all part} (h : PAt p (92 :: rest) all part false) : PAt p rest all part true := h
theorem PAt.bar {p rest all part} (h : PAt p (124 :: rest) all part false) : PAt p rest (all ++ [part]) [] false := by
  unfold PAt at *
  rw [h]
  simp only [Bool.false_eq_true, if_false]
  rw [toks_bar, List.append_assoc]
  rfl
theorem PAt.sign {p rest all part r} (h : PAt p (r :: rest) all part false) (h1 : r ≠ 92) (h2 : r ≠ 124) : PAt p rest all (part ++ [signOf r]) false := by
  unfold PAt at *
  rw [h]
  simp only [Bool.false_eq_true, if_false]
  rw [toks_sign h1 h2]
  rfl
theorem PAt.end' {p all part esc} (h : PAt p [] all part esc) : split (toks p) [] = all ++ [if esc then part ++ [.lit 92] else part] := by
  unfold PAt at h
  rw [h]
  cases esc <;> rfl
/-- Where the document's reader of signs stands. -/
theorem toks_take (p : List Nat) (i : Nat) (l : List Tok) (h : toks p = l ++ toks (p.drop i)) (hi : i < p.length) :
    (p[i] = 92 → ∀ h2 : i + 1 < p.length, toks p = (l ++ [.sg (.lit p[i + 1])]) ++ toks (p.drop (i + 2))) ∧
    (p[i] = 124 → toks p = (l ++ [.bar]) ++ toks (p.drop (i + 1))) ∧
    (p[i] ≠ 124 → (p[i] ≠ 92 ∨ ¬ i + 1 < p.length) → toks p = (l ++ [.sg (signOf p[i])]) ++ toks (p.drop (i + 1))) := by
  rw [drop_cons hi] at h
  refine ⟨fun e h2 => ?_, fun e => ?_, fun e e2 => ?_⟩
  · rw [drop_cons h2, e, toks_esc] at h
    rw [h, List.append_assoc]; rfl
  · rw [e, toks_bar] at h
    rw [h, List.append_assoc]; rfl
  · rcases Nat.lt_or_ge (i + 1) p.length with h3 | h3
    · rw [toks_sign (by rcases e2 with e2 | e2; exact e2; exact absurd h3 e2) e] at h
      rw [h, List.append_assoc]; rfl
    · rw [List.drop_of_length_le h3] at *
      rw [h, List.append_assoc]
      simp [toks, e]
/-- Where the document's Glob stands: the parts ahead do not fit; this one began at f. -/
def GAt (l : List Tok) (s : List Nat) (i f : Nat) (part : List Sg) : Prop :=
  f ≤ i ∧ i ≤ l.length + 1 ∧ (i ≤ l.length → (l.take i).drop f = part.map .sg ∧ ((split l []).any fun q => fit q s) = ((split (l.drop i) part).any fun q => fit q s)) ∧ (i = l.length + 1 → ((split l []).any fun q => fit q s) = false)
theorem GAt.start (l : List Tok) (s : List Nat) : GAt l s 0 0 [] := ⟨by omega, by omega, fun _ => ⟨by simp, by simp⟩, fun h => by omega⟩
theorem GAt.sign {l s i f part g} (h : GAt l s i f part) (hi : i < l.length) (hg : l[i] = .sg g) : GAt l s (i + 1) f (part ++ [g]) := by
  obtain ⟨h1, h2, h3, h4⟩ := h
  obtain ⟨h5, h6⟩ := h3 (by omega)
  refine ⟨by omega, by omega, fun _ => ⟨?_, ?_⟩, fun h => by omega⟩
  · rw [List.take_succ_eq_append_getElem hi, List.drop_append_of_le_length (by rw [List.length_take]; omega), h5, hg]; simp
  · rw [h6, drop_cons hi, hg, split]
theorem GAt.bar {l s i f part} (h : GAt l s i f part) (hi : i < l.length) (hg : l[i] = .bar) (hf : fit part s = false) : GAt l s (i + 1) (i + 1) [] := by
  obtain ⟨h1, h2, h3, h4⟩ := h
  obtain ⟨h5, h6⟩ := h3 (by omega)
  refine ⟨by omega, by omega, fun _ => ⟨?_, ?_⟩, fun h => by omega⟩
  · rw [List.drop_of_length_le (by rw [List.length_take]; omega)]; rfl
  · rw [h6, drop_cons hi, hg, split, List.any_cons, hf, Bool.false_or]
theorem GAt.yes {l s i f part} (h : GAt l s i f part) (hi : i ≤ l.length) (hb : ∀ h : i < l.length, l[i] = .bar) (hf : fit part s = true) : ((split l []).any fun q => fit q s) = true := by
  obtain ⟨h1, h2, h3, h4⟩ := h
  obtain ⟨h5, h6⟩ := h3 hi
  rw [h6]
  rcases Nat.lt_or_ge i l.length with h | h
  · rw [drop_cons h, hb h, split, List.any_cons, hf, Bool.true_or]
  · rw [List.drop_of_length_le h, split, List.any_cons, hf, Bool.true_or]
theorem GAt.last {l s i f part} (h : GAt l s i f part) (hi : i = l.length) (hf : fit part s = false) : GAt l s (i + 1) (i + 1) [] := by
  obtain ⟨h1, h2, h3, h4⟩ := h
  obtain ⟨h5, h6⟩ := h3 (by omega)
  refine ⟨by omega, by omega, fun h => by omega, fun _ => ?_⟩
  rw [h6, List.drop_of_length_le (by omega), split, List.any_cons, hf]
  rfl
theorem GAt.slice {l s i f part} (h : GAt l s i f part) (hi : i ≤ l.length) : (l.take i).drop f = part.map .sg := (h.2.2.1 hi).1
/-- The document's table, sign by sign. -/
theorem dp_base (s : List Nat) (k : Nat) (hk : k ≤ s.length) : fit [] (s.take k) = decide (k = 0) := by
  rw [Bool.eq_iff_iff, fit_nil, decide_eq_true_iff]
  constructor
  · intro h
    have := congrArg List.length h
    rw [List.length_take, Nat.min_eq_left hk] at this
    exact this
  · rintro rfl; simp
theorem fit_one_any (s : List Nat) : fit [.any] s = true := (fit_any _ _).2 ⟨s.length, Nat.le_refl _, by simp [fit]⟩
theorem dp_any (q : List Sg) (s : List Nat) (k : Nat) (hk : k ≤ s.length) : fit (q ++ [.any]) (s.take k) = (fit q (s.take k) || (decide (0 < k) && fit (q ++ [.any]) (s.take (k - 1)))) := by
  have key : ∀ m, m ≤ s.length → (fit (q ++ [.any]) (s.take m) = true ↔ ∃ j, j ≤ m ∧ fit q (s.take j) = true) := fun m hm => by
    rw [fit_app]
    constructor
    · rintro ⟨j, hj, h1, _⟩
      rw [List.length_take] at hj
      rw [List.take_take] at h1
      exact ⟨min j m, by omega, h1⟩
    · rintro ⟨j, hj, h1⟩
      refine ⟨j, by rw [List.length_take]; omega, ?_, fit_one_any _⟩
      rw [List.take_take, Nat.min_eq_left hj]
      exact h1
  rw [Bool.eq_iff_iff, Bool.or_eq_true, Bool.and_eq_true, decide_eq_true_iff, key k hk]
  constructor
  · rintro ⟨j, hj, h⟩
    rcases Nat.lt_or_ge j k with h2 | h2
    · exact .inr ⟨by omega, (key _ (by omega)).2 ⟨j, by omega, h⟩⟩
    · obtain rfl : j = k := by omega
      exact .inl h
  · rintro (h | ⟨h0, h⟩)
    · exact ⟨k, Nat.le_refl _, h⟩
    · obtain ⟨j, hj, h⟩ := (key _ (by omega)).1 h
      exact ⟨j, by omega, h⟩
theorem dp_sign {g : Sg} (hg : g ≠ .any) (q : List Sg) (s : List Nat) (k : Nat) (hk : k < s.length) : fit (q ++ [g]) (s.take (k + 1)) = (g.hits s[k] && fit q (s.take k)) := by
  rw [Bool.eq_iff_iff, Bool.and_eq_true, fit_app]
  constructor
  · rintro ⟨j, hj, h1, h2⟩
    obtain ⟨c, t, e, hc, h3⟩ := (fit_sign hg _ _).1 h2
    rw [fit_nil] at h3
    subst h3
    have e2 := congrArg List.length e
    rw [List.length_drop, List.length_take, Nat.min_eq_left (by omega)] at e2
    rw [List.length_take, Nat.min_eq_left (by omega)] at hj
    simp only [List.length_cons, List.length_nil] at e2
    obtain rfl : j = k := by omega
    rw [List.take_take, Nat.min_eq_left (by omega)] at h1
    rw [List.take_succ_eq_append_getElem hk, List.drop_append_of_le_length (by rw [List.length_take]; omega), List.drop_of_length_le (by rw [List.length_take]; omega)] at e
    simp only [List.nil_append, List.cons.injEq, and_true] at e
    subst e
    exact ⟨hc, h1⟩
  · rintro ⟨hc, h⟩
    refine ⟨k, by rw [List.length_take]; omega, by rw [List.take_take, Nat.min_eq_left (by omega)]; exact h, ?_⟩
    rw [List.take_succ_eq_append_getElem hk, List.drop_append_of_le_length (by rw [List.length_take]; omega), List.drop_of_length_le (by rw [List.length_take]; omega)]
    exact (fit_sign hg _ _).2 ⟨_, [], rfl, hc, by simp [fit]⟩
theorem dp_zero {g : Sg} (hg : g ≠ .any) (q : List Sg) (s : List Nat) : fit (q ++ [g]) (s.take 0) = false := by
  rw [Bool.eq_false_iff]
  intro h
  obtain ⟨j, hj, h1, h2⟩ := (fit_app _ _ _).1 h
  obtain ⟨c, t, e, _⟩ := (fit_sign hg _ _).1 h2
  simp at e
end Gl
namespace Go.Proofs.YtlhodanpfpfodaaGreatDoor
open Go.RowKit Go.Icz Gl
/-- Runes, and signs, in memory. -/
def K32 : Kd Int := { e := 21, z := 1, enc := fun x => [.int .i32 x], len := fun _ => rfl, pos := by decide, one := fun x u hu => by rw [List.mem_singleton.1 hu]; rfl }
def encG : Sg → Int
  | .any => -2
  | .one => -1
  | .lit r => r
def encP (p : List Sg) : List Int := p.map encG
def encR (l : List Nat) : List Int := l.map fun r : Nat => (r : Int)
theorem K32_at {w : World} {A : Option Addr} {n c : Nat} {l : List Int} (h : K32.Rd w (.slice A n c) l) {j : Nat} (hj : j < l.length) :
    ∃ b off, A = some ⟨b, off, none⟩ ∧ b < w.heap.size ∧ w.cell? ⟨b, off + j, none⟩ = some (.int .i32 l[j]) := by
  obtain ⟨b, off, hA, hb, hc⟩ := h.at hj
  refine ⟨b, off, hA, hb, ?_⟩
  have := hc 0 (.int .i32 l[j]) (by decide) rfl
  have e : j * K32.z + 0 = j := by show j * 1 + 0 = j; omega
  rwa [e] at this
def behindV : Option (Nat × Nat) → Int
  | none => -1
  | some (b, _) => b
def fromV : Option (Nat × Nat) → Int
  | none => 0
  | some (_, f) => f
def measV (p s : Nat) (iv bv fv : Value) : Nat :=
  meas p s (intOf iv).toNat (match intOf bv with | .negSucc _ => none | .ofNat b => some (b, (intOf fv).toNat))
theorem measV_eq (p s i : Nat) (st : Option (Nat × Nat)) : measV p s (.int .i64 i) (.int .i64 (behindV st)) (.int .i64 (fromV st)) = meas p s i st := by
  cases st with
  | none => rfl
  | some x => rfl
set_option maxHeartbeats 4000000 in
set_option maxRecDepth 100000 in
theorem fits_is (pv sv : Value) (p : List Sg) (s : List Nat) (w : World) (hp : K32.Rd w pv (encP p)) (hs : K32.Rd w sv (encR s)) (hlp : p.length ≤ 140737488355328) (hls : s.length ≤ 140737488355328) (hr : ∀ r ∈ s, r ≤ 1114111) (hq : ∀ r, Sg.lit r ∈ p → r ≤ 1114111) :
    Calls Tryz.prog 50 #[pv, sv] w fun e w' => e = .returned (.bool (fit p s)) ∧ ∃ n, w' = w.drewN n := by
  obtain ⟨Ap, cp, rfl, hcp⟩ := hp.form
  obtain ⟨As, cs, rfl, hcs⟩ := hs.form
  have ep : (encP p).length = p.length := by simp [encP]
  have es : (encR s).length = s.length := by simp [encR]
  rw [ep] at hp hcp ⊢
  rw [es] at hs hcs ⊢
  have HP := fun j (hj : j < p.length) => K32_at hp (j := j) (by rw [ep]; exact hj)
  have HS := fun j (hj : j < s.length) => K32_at hs (j := j) (by rw [es]; exact hj)
  go_enter Tryz.func50, Tryz.ntmps50
  go_wp2_with fail
  go_loopw [5, 6, 7, 8] (fun av iv bv fv wr => ∃ (a i : Nat) (st : Option (Nat × Nat)) (n : Nat), av = .int .i64 a ∧ iv = .int .i64 i ∧ bv = .int .i64 (behindV st) ∧ fv = .int .i64 (fromV st) ∧ wr = w.drewN n ∧ Hid (At p s a i st)) (fun _ iv bv fv _ => measV p.length s.length iv bv fv)
  case atStart => exact ⟨0, 0, none, 0, rfl, rfl, rfl, rfl, rfl, hid (At.start p s)⟩
  case round =>
    obtain ⟨a, i, st, n, rfl, rfl, rfl, rfl, rfl, HA⟩ := hrel
    have ha := HA.out.1
    have hi := HA.out.2.1
    by_cases hlt : i < s.length
    · have hlt' : (i : Int) < s.length := by omega
      obtain ⟨bs, os, rfl, _, hcs⟩ := HS i hlt
      by_cases hap : a < p.length
      · have hap' : (a : Int) < p.length := by omega
        obtain ⟨bp, op, rfl, _, hcp⟩ := HP a hap
        have e2 : (encR s)[i] = (s[i] : Int) := by simp [encR]
        have e1 : (encP p)[a] = encG p[a] := by simp [encP]
        rw [e1] at hcp
        rw [e2] at hcs
        have hsi := hr s[i] (List.getElem_mem hlt)
        have hstar := HA.out.star hap
        have hhit := HA.out.hit hap hlt
        have hno : st = none → p[a] ≠ .any ∧ (p[a]).hits s[i] = false → fit p s = false := fun e h => (by subst e; exact HA.out.no hlt fun _ => h)
        have hag : ∀ b f, st = some (b, f) → p[a] ≠ .any ∧ (p[a]).hits s[i] = false → At p s b (f + 1) (some (b, f + 1)) ∧ f < s.length ∧ b ≤ a := fun b f e h => (by subst e; exact ⟨HA.out.again hlt fun _ => h, by have := HA.out.2.2; omega, HA.out.2.2.1⟩)
        have hba : ∀ b f, st = some (b, f) → b ≤ a := fun b f e => (by subst e; exact HA.out.2.2.1)
        have hql := fun r (e : p[a] = .lit r) => hq r (by rw [← e]; exact List.getElem_mem hap)
        have hm1 := meas_star (p := p.length) (s := s.length) (i := i) (st := st) hi hap hba
        have hm2 := meas_hit (p := p.length) (s := s.length) (i := i) (st := st) hlt
        have hmv := measV_eq p.length s.length i st
        clear e1 e2 HP HS HA
        generalize p[a] = x at *
        generalize s[i] = y at *
        cases x with
        | any =>
          have HB := hid (hstar rfl)
          clear hstar hhit hno hag hql
          simp only [encG] at hcp
          cases st with
          | none =>
            simp only [behindV, fromV] at *
            go_wp2_with fail
            have h2 := measV_eq p.length s.length i (some (a + 1, i))
            simp only [behindV, fromV] at h2
            push_cast at h2
            exact ⟨⟨a + 1, i, some (a + 1, i), n, by go_num, rfl, by simp, rfl, rfl, HB⟩, by rw [h2, hmv]; exact hm1⟩
          | some z =>
            obtain ⟨b, f⟩ := z
            simp only [behindV, fromV] at *
            go_wp2_with fail
            have h2 := measV_eq p.length s.length i (some (a + 1, i))
            simp only [behindV, fromV] at h2
            push_cast at h2
            exact ⟨⟨a + 1, i, some (a + 1, i), n, by go_num, rfl, by simp, rfl, rfl, HB⟩, by rw [h2, hmv]; exact hm1⟩
        | one =>
          have HB := hid (hhit (by simp) rfl)
          have d1 : decide (a < p.length) = true := decide_eq_true hap
          clear hstar hhit hno hag hql
          simp only [encG] at hcp
          cases st with
          | none =>
            simp only [behindV, fromV] at *
            go_wp2_with fail
            go_quiet (fail)
            go_wp2_with fail
            have h2 := measV_eq p.length s.length (i + 1) none
            simp only [behindV, fromV] at h2
            push_cast at h2
            exact ⟨⟨a + 1, i + 1, none, n + nq, by go_num, by go_num, rfl, rfl, by first | rfl | rw [World.drewN_drewN], HB⟩, by rw [h2, hmv]; exact hm2⟩
          | some z =>
            obtain ⟨b, f⟩ := z
            simp only [behindV, fromV] at *
            go_wp2_with fail
            go_quiet (fail)
            go_wp2_with fail
            have h2 := measV_eq p.length s.length (i + 1) (some (b, f))
            simp only [behindV, fromV] at h2
            push_cast at h2
            exact ⟨⟨a + 1, i + 1, (some (b, f)), n + nq, by go_num, by go_num, rfl, rfl, by first | rfl | rw [World.drewN_drewN], HB⟩, by rw [h2, hmv]; exact hm2⟩
        | lit r =>
          have d1 : decide (a < p.length) = true := decide_eq_true hap
          have e1 : ((r : Int) == -2) = false := by rw [beq_eq_false_iff_ne]; omega
          have e2 : ((r : Int) == -1) = false := by rw [beq_eq_false_iff_ne]; omega
          simp only [encG] at hcp
          clear hstar hql
          by_cases hry : r = y
          · have HB := hid (hhit (by simp) (by rw [hry]; simp [Sg.hits]))
            have e3 : ((r : Int) == (y : Int)) = true := by rw [beq_iff_eq]; omega
            clear hhit hno hag hry
            cases st with
            | none =>
              simp only [behindV, fromV] at *
              go_wp2_with fail
              go_quiet (fail)
              go_wp2_with fail
              have h2 := measV_eq p.length s.length (i + 1) none
              simp only [behindV, fromV] at h2
              push_cast at h2
              exact ⟨⟨a + 1, i + 1, none, n + nq, by go_num, by go_num, rfl, rfl, by first | rfl | rw [World.drewN_drewN], HB⟩, by rw [h2, hmv]; exact hm2⟩
            | some z =>
              obtain ⟨b, f⟩ := z
              simp only [behindV, fromV] at *
              go_wp2_with fail
              go_quiet (fail)
              go_wp2_with fail
              have h2 := measV_eq p.length s.length (i + 1) (some (b, f))
              simp only [behindV, fromV] at h2
              push_cast at h2
              exact ⟨⟨a + 1, i + 1, (some (b, f)), n + nq, by go_num, by go_num, rfl, rfl, by first | rfl | rw [World.drewN_drewN], HB⟩, by rw [h2, hmv]; exact hm2⟩
          · have hmiss : Sg.lit r ≠ .any ∧ (Sg.lit r).hits y = false := ⟨by simp, by simp [Sg.hits, hry]⟩
            have e3 : ((r : Int) == (y : Int)) = false := by rw [beq_eq_false_iff_ne]; omega
            clear hhit
            cases st with
            | none =>
              have HB := hid (hno rfl hmiss)
              clear hno hag
              simp only [behindV, fromV] at *
              go_wp2_with fail
              go_quiet (fail)
              go_wp2_with fail
              go_ret
              exact ⟨by rw [HB.out]; rfl, n + nq, by first | rfl | rw [World.drewN_drewN]⟩
            | some z =>
              obtain ⟨b, f⟩ := z
              obtain ⟨hb1, hf, hb2⟩ := hag b f rfl hmiss
              have HB := hid hb1
              have hm3 := meas_again (p := p.length) (i := i) (b := b) hf
              clear hno hag hb1
              simp only [behindV, fromV] at *
              have eb : ((b : Int) == -1) = false := by rw [beq_eq_false_iff_ne]; omega
              go_wp2_with fail
              go_quiet (fail)
              go_wp2_with fail
              have h2 := measV_eq p.length s.length (f + 1) (some (b, f + 1))
              simp only [behindV, fromV] at h2
              push_cast at h2
              exact ⟨⟨b, f + 1, some (b, f + 1), n + nq, rfl, by go_num, rfl, by simp, by first | rfl | rw [World.drewN_drewN], HB⟩, by rw [h2, hmv]; exact hm3⟩
      · have d1 : decide (a < p.length) = false := decide_eq_false hap
        have hap' : ¬ (a : Int) < p.length := by omega
        have hno : st = none → (0 : Nat) = 0 → fit p s = false := fun e _ => (by subst e; exact HA.out.no hlt fun h => absurd h hap)
        have hag : ∀ b f, st = some (b, f) → (0 : Nat) = 0 → At p s b (f + 1) (some (b, f + 1)) ∧ f < s.length ∧ b ≤ a := fun b f e _ => (by subst e; exact ⟨HA.out.again hlt fun h => absurd h hap, by have := HA.out.2.2; omega, HA.out.2.2.1⟩)
        have hmv := measV_eq p.length s.length i st
        clear HP HS HA hcs
        cases st with
        | none =>
          have HB := hid (hno rfl rfl)
          clear hno hag
          simp only [behindV, fromV] at *
          go_wp2_with fail
          go_quiet (fail)
          go_wp2_with fail
          go_ret
          exact ⟨by rw [HB.out]; rfl, n + nq, by first | rfl | rw [World.drewN_drewN]⟩
        | some z =>
          obtain ⟨b, f⟩ := z
          obtain ⟨hb1, hf, hb2⟩ := hag b f rfl rfl
          have HB := hid hb1
          have hm3 := meas_again (p := p.length) (i := i) (b := b) hf
          clear hno hag hb1
          simp only [behindV, fromV] at *
          have eb : ((b : Int) == -1) = false := by rw [beq_eq_false_iff_ne]; omega
          go_wp2_with fail
          go_quiet (fail)
          go_wp2_with fail
          have h2 := measV_eq p.length s.length (f + 1) (some (b, f + 1))
          simp only [behindV, fromV] at h2
          push_cast at h2
          exact ⟨⟨b, f + 1, some (b, f + 1), n + nq, rfl, by go_num, rfl, by simp, by first | rfl | rw [World.drewN_drewN], HB⟩, by rw [h2, hmv]; exact hm3⟩
    · obtain rfl : i = s.length := by omega
      have HD := hid (HA.out.done rfl)
      have hlt' : ¬ (s.length : Int) < s.length := by omega
      clear HA HS hlt
      go_wp2_with fail
      go_loopw [5] (fun av wr => ∃ (a n : Nat), av = .int .i64 a ∧ wr = w.drewN n ∧ a ≤ p.length ∧ Hid (fit p s = fit (p.drop a) [])) (fun av _ => p.length - (intOf av).toNat)
      case atStart => exact ⟨a, n, rfl, rfl, ha, HD⟩
      case round =>
        clear HD ha
        obtain ⟨a, n, rfl, rfl, ha, HD⟩ := hrel
        by_cases hap : a < p.length
        · have hap' : (a : Int) < p.length := by omega
          obtain ⟨bp, op, rfl, _, hcp⟩ := HP a hap
          have e1 : (encP p)[a] = encG p[a] := by simp [encP]
          rw [e1] at hcp
          have h1 := fun h => end_star (p := p) (a := a) hap h
          have h2 := fun h => end_no (p := p) (a := a) hap h
          have hql := fun r (e : p[a] = .lit r) => hq r (by rw [← e]; exact List.getElem_mem hap)
          have hne : ((a : Int) == p.length) = false := by simp; omega
          clear e1 HP
          generalize p[a] = x at *
          cases x with
          | any =>
            have HB : Hid (fit p s = fit (p.drop (a + 1)) []) := hid (by rw [HD.out, h1 rfl])
            simp only [encG] at hcp
            clear HD h1 h2 hql
            go_wp2_with fail
            exact ⟨⟨a + 1, n, by go_num, rfl, by omega, HB⟩, by simp [intOf]; omega⟩
          | one =>
            have HB : Hid (fit p s = false) := hid (by rw [HD.out, h2 (by simp)])
            simp only [encG] at hcp
            clear HD h1 h2 hql
            go_wp2_with fail
            go_ret
            exact ⟨by rw [HB.out]; rfl, n, rfl⟩
          | lit r =>
            have HB : Hid (fit p s = false) := hid (by rw [HD.out, h2 (by simp)])
            have e1 : ((r : Int) == -2) = false := by rw [beq_eq_false_iff_ne]; omega
            simp only [encG] at hcp
            clear HD h1 h2 hql
            go_wp2_with fail
            go_ret
            exact ⟨by rw [HB.out]; rfl, n, rfl⟩
        · have HB : Hid (fit p s = true) := hid (by rw [HD.out, end_all (by omega)])
          have hap' : ¬ (a : Int) < p.length := by omega
          have heq : ((a : Int) == p.length) = true := by simp; omega
          clear HD HP
          go_wp2_with fail
          go_ret
          exact ⟨by rw [HB.out]; rfl, n, rfl⟩
end Go.Proofs.YtlhodanpfpfodaaGreatDoor
