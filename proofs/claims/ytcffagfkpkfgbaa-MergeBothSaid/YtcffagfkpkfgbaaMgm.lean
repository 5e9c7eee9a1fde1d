/-
  Heaps in lists: what swaps up and down do; rows that are merged as one stream, the least head first. Mathematics alone. Conditions: those that each theorem names.
-/
import Derived.Handy
namespace Go.Icz
section
variable {α : Type}
/-- Two places change what they hold. -/
def swp (l : List α) (i j : Nat) : List α := match l[i]?, l[j]? with | some a, some b => (l.set i b).set j a | _, _ => l
theorem swp_set {l : List α} {i j : Nat} (hi : i < l.length) (hj : j < l.length) : swp l i j = (l.set i l[j]).set j l[i] := by
  unfold swp
  rw [List.getElem?_eq_getElem hi, List.getElem?_eq_getElem hj]
theorem swp_length (l : List α) (i j : Nat) : (swp l i j).length = l.length := by
  unfold swp
  split <;> simp
theorem swp_get {l : List α} {i j : Nat} {a b : α} (hi : l[i]? = some a) (hj : l[j]? = some b) (k : Nat) : (swp l i j)[k]? = if k = j then some a else if k = i then some b else l[k]? := by
  have h1 := (List.getElem?_eq_some_iff.1 hi).1
  have h2 := (List.getElem?_eq_some_iff.1 hj).1
  unfold swp
  rw [hi, hj]
  simp only [List.getElem?_set, List.length_set]
  by_cases e1 : k = j
  · subst e1; simp [h2]
  · have e1' : ¬ j = k := fun h => e1 h.symm
    rw [if_neg e1', if_neg e1]
    by_cases e2 : k = i
    · subst e2; simp [h1]
    · have e2' : ¬ i = k := fun h => e2 h.symm
      rw [if_neg e2', if_neg e2]
theorem set_perm (l : List α) (i : Nat) (hi : i < l.length) (x : α) : List.Perm (l[i] :: l.set i x) (x :: l) := by
  induction l generalizing i with
  | nil => simp at hi
  | cons y t ih =>
    match i with
    | 0 => exact List.Perm.swap _ _ _
    | k + 1 =>
      have hk : k < t.length := by simpa using hi
      have h := ih k hk
      simp only [List.getElem_cons_succ, List.set_cons_succ]
      exact (List.Perm.swap _ _ _).trans ((h.cons y).trans (List.Perm.swap _ _ _))
theorem swp_perm (l : List α) (i j : Nat) : List.Perm (swp l i j) l := by
  unfold swp
  split
  · rename_i a b hi hj
    obtain ⟨h1, e1⟩ := List.getElem?_eq_some_iff.1 hi
    obtain ⟨h2, e2⟩ := List.getElem?_eq_some_iff.1 hj
    have p1 := set_perm l i h1 b
    rw [e1] at p1
    have hj' : j < (l.set i b).length := by simpa using h2
    have p2 := set_perm (l.set i b) j hj' a
    have e3 : (l.set i b)[j] = b := by
      rw [List.getElem_set]
      split
      · rfl
      · exact e2
    rw [e3] at p2
    have p3 : List.Perm (b :: (l.set i b).set j a) (b :: l) := p2.trans p1
    exact (List.perm_cons b).1 p3
  · exact List.Perm.refl _
variable {lt : α → α → Bool}
/-- An order: nothing ahead of what is ahead of it; what is not ahead goes on. -/
structure Ordr (lt : α → α → Bool) : Prop where
  asym : ∀ a b, lt a b = true → lt b a = false
  nt : ∀ a b c, lt a b = false → lt b c = false → lt a c = false
theorem Ordr.trans (o : Ordr lt) {a b c : α} (h1 : lt a b = true) (h2 : lt b c = true) : lt a c = true := by
  cases h : lt a c with
  | true => rfl
  | false =>
    have := o.nt _ _ _ (o.asym _ _ h1) h
    rw [h2] at this
    cases this
/-- Below the place s all stand in a heap. -/
def HpF (lt : α → α → Bool) (l : List α) (n s : Nat) : Prop :=
  ∀ k a b, k < n → 0 < k → s ≤ (k - 1) / 2 → l[k]? = some a → l[(k - 1) / 2]? = some b → lt a b = false
/-- .. but for the place i. -/
def HpD (lt : α → α → Bool) (l : List α) (n s i : Nat) : Prop :=
  (∀ k a b, k < n → 0 < k → s ≤ (k - 1) / 2 → (k - 1) / 2 ≠ i → l[k]? = some a → l[(k - 1) / 2]? = some b → lt a b = false) ∧
  (s < i → s ≤ (i - 1) / 2 ∧ ∀ k a b, k < n → 0 < k → (k - 1) / 2 = i → l[k]? = some a → l[(i - 1) / 2]? = some b → lt a b = false)
theorem HpD.start {l : List α} {n s : Nat} (h : HpF lt l n (s + 1)) : HpD lt l n s s :=
  ⟨fun k a b hk h0 hs hne ha hb => h k a b hk h0 (by omega) ha hb, fun h => absurd h (by omega)⟩
theorem HpD.step (o : Ordr lt) {l : List α} {n s i j : Nat} {x y : α} (h : HpD lt l n s i) (hsi : s ≤ i) (hi : l[i]? = some x) (hj : l[j]? = some y) (hp : (j - 1) / 2 = i) (h0 : 0 < j) (hjn : j < n) (hlt : lt y x = true)
    (hsm : ∀ k z, k < n → 0 < k → (k - 1) / 2 = i → k ≠ j → l[k]? = some z → lt z y = false) : HpD lt (swp l i j) n s j := by
  have g := swp_get hi hj
  refine ⟨?_, fun _ => ⟨by omega, ?_⟩⟩
  · intro k a b hk hk0 hsk hne ha hb
    rw [g] at ha hb
    by_cases e1 : k = j
    · subst e1
      rw [hp, if_neg (by omega), if_pos rfl] at hb
      rw [if_pos rfl] at ha
      injection ha with ha
      injection hb with hb
      subst ha hb
      exact o.asym _ _ hlt
    · rw [if_neg e1] at ha
      by_cases e2 : k = i
      · subst e2
        rw [if_pos rfl] at ha
        injection ha with ha
        subst ha
        rw [if_neg hne, if_neg (by omega)] at hb
        exact (h.2 (by omega)).2 j y b hjn h0 hp hj hb
      · rw [if_neg e2] at ha
        rw [if_neg hne] at hb
        by_cases e3 : (k - 1) / 2 = i
        · rw [if_pos e3] at hb
          injection hb with hb
          subst hb
          exact hsm k a hk hk0 e3 e1 ha
        · rw [if_neg e3] at hb
          exact h.1 k a b hk hk0 hsk e3 ha hb
  · intro k a b hk hk0 hpk ha hb
    rw [g] at ha hb
    rw [hp, if_neg (by omega), if_pos rfl] at hb
    injection hb with hb
    subst hb
    rw [if_neg (by omega), if_neg (by omega)] at ha
    exact h.1 k a y hk hk0 (by omega) (by omega) ha (by rw [hpk]; exact hj)
theorem HpD.stop {l : List α} {n s i : Nat} {x : α} (h : HpD lt l n s i) (hi : l[i]? = some x) (hk : ∀ k z, k < n → 0 < k → (k - 1) / 2 = i → l[k]? = some z → lt z x = false) : HpF lt l n s := by
  intro k a b hkn h0 hs ha hb
  by_cases e : (k - 1) / 2 = i
  · rw [e, hi] at hb
    injection hb with hb
    subst hb
    exact hk k a hkn h0 e ha
  · exact h.1 k a b hkn h0 hs e ha hb
/-- All stand in a heap but the place j, which may be too far down. -/
def HpU (lt : α → α → Bool) (l : List α) (n j : Nat) : Prop :=
  (∀ k a b, k < n → 0 < k → k ≠ j → l[k]? = some a → l[(k - 1) / 2]? = some b → lt a b = false) ∧
  (0 < j → ∀ k a b, k < n → 0 < k → (k - 1) / 2 = j → l[k]? = some a → l[(j - 1) / 2]? = some b → lt a b = false)
theorem HpU.start {l : List α} {n : Nat} {x : α} (hn : l.length = n) (h : HpF lt l n 0) : HpU lt (l ++ [x]) (n + 1) n := by
  refine ⟨fun k a b hk h0 hne ha hb => ?_, fun _ k a b hk h0 hp => by omega⟩
  rw [List.getElem?_append_left (by omega)] at ha hb
  exact h k a b (by omega) h0 (by omega) ha hb
theorem HpU.step (o : Ordr lt) {l : List α} {n i j : Nat} {x y : α} (h : HpU lt l n j) (h0 : 0 < j) (hp : (j - 1) / 2 = i) (hjn : j < n) (hi : l[i]? = some x) (hj : l[j]? = some y) (hlt : lt y x = true) : HpU lt (swp l i j) n i := by
  have g := swp_get hi hj
  refine ⟨?_, ?_⟩
  · intro k a b hk hk0 hne ha hb
    rw [g] at ha hb
    by_cases e1 : k = j
    · subst e1
      rw [hp, if_neg (by omega), if_pos rfl] at hb
      rw [if_pos rfl] at ha
      injection ha with ha
      injection hb with hb
      subst ha hb
      exact o.asym _ _ hlt
    · rw [if_neg e1, if_neg hne] at ha
      by_cases e2 : (k - 1) / 2 = j
      · rw [if_pos e2] at hb
        injection hb with hb
        subst hb
        exact h.2 h0 k a x hk hk0 e2 ha (by rw [hp]; exact hi)
      · rw [if_neg e2] at hb
        by_cases e3 : (k - 1) / 2 = i
        · rw [if_pos e3] at hb
          injection hb with hb
          subst hb
          have h1 := h.1 k a x hk hk0 e1 ha (by rw [e3]; exact hi)
          cases h2 : lt a y with
          | false => rfl
          | true =>
            have := o.trans h2 hlt
            rw [h1] at this
            cases this
        · rw [if_neg e3] at hb
          exact h.1 k a b hk hk0 e1 ha hb
  · intro hi0 k a b hk hk0 hpk ha hb
    rw [g] at ha hb
    rw [if_neg (by omega), if_neg (by omega)] at hb
    have hxb := h.1 i x b (by omega) hi0 (by omega) hi hb
    by_cases e1 : k = j
    · rw [if_pos e1] at ha
      injection ha with ha
      subst ha
      exact hxb
    · rw [if_neg e1, if_neg (by omega)] at ha
      exact o.nt _ _ _ (h.1 k a x hk hk0 e1 ha (by rw [hpk]; exact hi)) hxb
theorem HpU.stop {l : List α} {n j : Nat} {x y : α} (h : HpU lt l n j) (hj : l[j]? = some y) (hk : 0 < j → l[(j - 1) / 2]? = some x ∧ lt y x = false) : HpF lt l n 0 := by
  intro k a b hkn h0 _ ha hb
  by_cases e : k = j
  · subst e
    obtain ⟨h1, h2⟩ := hk h0
    rw [h1] at hb
    rw [hj] at ha
    injection ha with ha
    injection hb with hb
    subst ha hb
    exact h2
  · exact h.1 k a b hkn h0 e ha hb
/-- Nothing is ahead of the first. -/
theorem HpF.root (o : Ordr lt) {l : List α} {n : Nat} (hn : n ≤ l.length) (h : HpF lt l n 0) {x : α} (h0 : l[0]? = some x) : ∀ k y, k < n → l[k]? = some y → lt y x = false := by
  intro k
  induction k using Nat.strongRecOn with
  | _ k ih =>
    intro y hk hy
    by_cases e : k = 0
    · subst e
      rw [h0] at hy
      injection hy with hy
      subst hy
      cases h' : lt x x with
      | false => rfl
      | true => have := o.asym _ _ h'; rw [h'] at this; cases this
    · have hp : (k - 1) / 2 < l.length := by omega
      obtain ⟨z, hz⟩ : ∃ z, l[(k - 1) / 2]? = some z := ⟨_, List.getElem?_eq_getElem hp⟩
      exact o.nt _ _ _ (h k y z hk (by omega) (by omega) hy hz) (ih _ (by omega) z (by omega) hz)
/-- The first goes to the end, and the rest may be too far up at the first place alone. -/
theorem HpF.swap {l : List α} {n : Nat} {x y : α} (h : HpF lt l (n + 1) 0) (h0 : l[0]? = some x) (hn : l[n]? = some y) : HpF lt (swp l 0 n) n (0 + 1) := by
  intro k a b hk hk0 hs ha hb
  rw [swp_get h0 hn] at ha hb
  rw [if_neg (by omega), if_neg (by omega)] at ha hb
  exact h k a b (by omega) hk0 (by omega) ha hb
theorem HpF.take {l : List α} {n s : Nat} (h : HpF lt l n s) : HpF lt (l.take n) n s := by
  intro k a b hk hk0 hs ha hb
  rw [List.getElem?_take_of_lt hk] at ha
  rw [List.getElem?_take_of_lt (by omega)] at hb
  exact h k a b hk hk0 hs ha hb
theorem HpF.none (l : List α) (s : Nat) : HpF lt l l.length (l.length / 2 + s) := fun k a b hk h0 hs ha hb => by omega
end
section
variable {α : Type} (ky : α → Int × Int)
/-- x stands ahead of y, by its time, then by its number. -/
def bef (x y : α) : Bool := decide ((ky x).1 < (ky y).1) || (decide ((ky x).1 = (ky y).1) && decide ((ky x).2 < (ky y).2))
def frst (nb : Bool) (x y : α) : Bool := if nb then bef ky y x else bef ky x y
/-- Heads: the first row's of equal ones. -/
def rlt (nb : Bool) (a b : α × Nat) : Bool := frst ky nb a.1 b.1 || (!frst ky nb b.1 a.1 && decide (a.2 < b.2))
theorem ord_bef : Ordr (bef ky) := ⟨fun a b h => by unfold bef at *; simp at *; omega, fun a b c h1 h2 => by unfold bef at *; simp at *; omega⟩
theorem ord_frst (nb : Bool) : Ordr (frst ky nb) := by
  cases nb
  · exact ord_bef ky
  · exact ⟨fun a b h => (ord_bef ky).asym _ _ h, fun a b c h1 h2 => (ord_bef ky).nt _ _ _ h2 h1⟩
theorem ord_rlt (nb : Bool) : Ordr (rlt ky nb) := by
  constructor
  · intro a b h
    unfold rlt at *
    have o := ord_frst ky nb
    cases h1 : frst ky nb a.1 b.1 with
    | true =>
      rw [o.asym _ _ h1]
      simp
    | false =>
      rw [h1] at h
      simp at h
      rw [h.1]
      simp
      omega
  · intro a b c h1 h2
    unfold rlt at *
    have o := ord_frst ky nb
    simp only [Bool.or_eq_false_iff, Bool.and_eq_false_iff, Bool.not_eq_false', decide_eq_false_iff_not] at *
    refine ⟨o.nt _ _ _ h1.1 h2.1, ?_⟩
    rcases h1.2 with h | h
    · left
      cases h' : frst ky nb c.1 a.1 with
      | true => rfl
      | false =>
        have := o.nt _ _ _ h2.1 h'
        rw [h] at this
        cases this
    · rcases h2.2 with h3 | h3
      · left
        cases h' : frst ky nb c.1 a.1 with
        | true => rfl
        | false =>
          have := o.nt _ _ _ h' h1.1
          rw [h3] at this
          cases this
      · right; omega
theorem rlt_total (nb : Bool) {a b : α × Nat} (h : a.2 ≠ b.2) (hn : rlt ky nb a b = false) : rlt ky nb b a = true := by
  unfold rlt at *
  simp only [Bool.or_eq_false_iff, Bool.and_eq_false_iff, Bool.not_eq_false', decide_eq_false_iff_not] at hn
  rcases hn.2 with h1 | h1
  · rw [h1]; rfl
  · rw [hn.1]
    have : b.2 < a.2 := by omega
    simp [this]
/-- The best head of the first k rows. -/
def bU (nb : Bool) (R : List (List α)) : Nat → Option (α × Nat)
  | 0 => none
  | k + 1 => match R[k]? with
    | some (y :: _) => match bU nb R k with
      | none => some (y, k)
      | some (x, p) => if frst ky nb y x then some (y, k) else some (x, p)
    | _ => bU nb R k
/-- p is the row with the best head of the first k. -/
def IsB (nb : Bool) (R : List (List α)) (k : Nat) (x : α) (t : List α) (p : Nat) : Prop :=
  p < k ∧ R[p]? = some (x :: t) ∧ ∀ i y u, i < k → i ≠ p → R[i]? = some (y :: u) → rlt ky nb (x, p) (y, i) = true
def NoB (R : List (List α)) (k : Nat) : Prop := ∀ i y u, i < k → R[i]? ≠ some (y :: u)
theorem bU_is (nb : Bool) (R : List (List α)) : ∀ k, (bU ky nb R k = none ∧ NoB R k) ∨ ∃ x t p, bU ky nb R k = some (x, p) ∧ IsB ky nb R k x t p
  | 0 => .inl ⟨rfl, fun i y u h => by omega⟩
  | k + 1 => by
    have ih := bU_is nb R k
    unfold bU
    cases hR : R[k]? with
    | none =>
      rcases ih with ⟨h1, h2⟩ | ⟨x, t, p, h1, h2, h3, h4⟩
      · exact .inl ⟨h1, fun i y u hi => by
          by_cases e : i = k
          · subst e; rw [hR]; simp
          · exact h2 i y u (by omega)⟩
      · refine .inr ⟨x, t, p, h1, by omega, h3, fun i y u hi hne he => ?_⟩
        by_cases e : i = k
        · subst e; rw [hR] at he; cases he
        · exact h4 i y u (by omega) hne he
    | some r =>
      match r, hR with
      | [], hR =>
        rcases ih with ⟨h1, h2⟩ | ⟨x, t, p, h1, h2, h3, h4⟩
        · exact .inl ⟨h1, fun i y u hi => by
            by_cases e : i = k
            · subst e; rw [hR]; simp
            · exact h2 i y u (by omega)⟩
        · refine .inr ⟨x, t, p, h1, by omega, h3, fun i y u hi hne he => ?_⟩
          by_cases e : i = k
          · subst e; rw [hR] at he; simp at he
          · exact h4 i y u (by omega) hne he
      | y :: u, hR =>
        rcases ih with ⟨h1, h2⟩ | ⟨x, t, p, h1, h2, h3, h4⟩
        · refine .inr ⟨y, u, k, by simp [h1], by omega, hR, fun i y' u' hi hne he => ?_⟩
          exact absurd he (h2 i y' u' (by omega))
        · by_cases hf : frst ky nb y x = true
          · refine .inr ⟨y, u, k, by simp [h1, hf], by omega, hR, fun i y' u' hi hne he => ?_⟩
            have hyx : rlt ky nb (y, k) (x, p) = true := by unfold rlt; simp [hf]
            by_cases e : i = p
            · subst e
              rw [h3] at he
              injection he with he
              injection he with he
              subst he
              exact hyx
            · exact (ord_rlt ky nb).trans hyx (h4 i y' u' (by omega) e he)
          · have hf' : frst ky nb y x = false := by simpa using hf
            refine .inr ⟨x, t, p, by simp [h1, hf'], by omega, h3, fun i y' u' hi hne he => ?_⟩
            by_cases e : i = k
            · subst e
              rw [hR] at he
              injection he with he
              injection he with he
              subst he
              unfold rlt
              rw [hf']
              simp
              omega
            · exact h4 i y' u' (by omega) hne he
theorem IsB.one {nb : Bool} {R : List (List α)} {k : Nat} {x x' : α} {t t' : List α} {p p' : Nat} (h : IsB ky nb R k x t p) (h' : IsB ky nb R k x' t' p') : x = x' ∧ t = t' ∧ p = p' := by
  by_cases e : p = p'
  · subst e
    have e := h.2.1.symm.trans h'.2.1
    simp at e
    exact ⟨e.1, e.2, rfl⟩
  · have a := h.2.2 p' x' t' h'.1 (fun h => e h.symm) h'.2.1
    have b := h'.2.2 p x t h.1 e h.2.1
    have := (ord_rlt ky nb).asym _ _ a
    rw [b] at this
    cases this
theorem bU_some {nb : Bool} {R : List (List α)} {k : Nat} {x : α} {t : List α} {p : Nat} (h : IsB ky nb R k x t p) : bU ky nb R k = some (x, p) := by
  rcases bU_is ky nb R k with ⟨h1, h2⟩ | ⟨x', t', p', h1, h2⟩
  · exact absurd h.2.1 (h2 p x t h.1)
  · obtain ⟨e1, e2, e3⟩ := h.one ky h2
    subst e1 e2 e3
    exact h1
theorem bU_none {nb : Bool} {R : List (List α)} {k : Nat} (h : NoB R k) : bU ky nb R k = none := by
  rcases bU_is ky nb R k with ⟨h1, _⟩ | ⟨x', t', p', h1, h2⟩
  · exact h1
  · exact absurd h2.2.1 (h p' x' t' h2.1)
def totR (R : List (List α)) : Nat := (R.map List.length).sum
theorem totR_set : ∀ (R : List (List α)) (p : Nat) (x : α) (t : List α), R[p]? = some (x :: t) → totR (R.set p t) + 1 = totR R
  | [], p, x, t, h => by simp at h
  | r :: R, 0, x, t, h => by
    simp at h
    subst h
    simp [totR]
    omega
  | r :: R, p + 1, x, t, h => by
    have := totR_set R p x t (by simpa using h)
    simp [totR] at this ⊢
    omega
/-- The rows as one: fuel, then what comes. -/
def strmF (nb : Bool) : Nat → List (List α) → List α
  | 0, _ => []
  | f + 1, R => match bU ky nb R R.length with
    | none => []
    | some (x, p) => x :: strmF nb f (R.set p ((R[p]?.getD []).tail))
def strm (nb : Bool) (R : List (List α)) : List α := strmF ky nb (totR R) R
theorem strm_some {nb : Bool} {R : List (List α)} {x : α} {t : List α} {p : Nat} (h : IsB ky nb R R.length x t p) : strm ky nb R = x :: strm ky nb (R.set p t) := by
  have ht := totR_set R p x t h.2.1
  unfold strm
  rw [← ht]
  conv => lhs; unfold strmF
  simp only [bU_some ky h]
  rw [h.2.1]
  rfl
theorem strm_none {nb : Bool} {R : List (List α)} (h : NoB R R.length) : strm ky nb R = [] := by
  unfold strm
  cases ht : totR R with
  | zero => rfl
  | succ f =>
    unfold strmF
    simp only [bU_none ky h]
theorem strm_cases (nb : Bool) (R : List (List α)) : (NoB R R.length ∧ strm ky nb R = []) ∨ ∃ x t p, IsB ky nb R R.length x t p ∧ strm ky nb R = x :: strm ky nb (R.set p t) := by
  rcases bU_is ky nb R R.length with ⟨_, h⟩ | ⟨x, t, p, _, h⟩
  · exact .inl ⟨h, strm_none ky h⟩
  · exact .inr ⟨x, t, p, h, strm_some ky h⟩
end
section
variable {α β : Type}
theorem strmF_map (ky : α → Int × Int) (ky' : β → Int × Int) (g : α → β) (hg : ∀ x, ky' (g x) = ky x) (nb : Bool) : ∀ (f : Nat) (R : List (List α)), strmF ky' nb f (R.map (List.map g)) = (strmF ky nb f R).map g := by
  have hfr : ∀ x y, frst ky' nb (g x) (g y) = frst ky nb x y := fun x y => by unfold frst bef; simp only [hg]
  have hb : ∀ (R : List (List α)) k, bU ky' nb (R.map (List.map g)) k = (bU ky nb R k).map (fun z => (g z.1, z.2)) := by
    intro R k
    induction k with
    | zero => rfl
    | succ k ih =>
      unfold bU
      rw [List.getElem?_map]
      cases hR : R[k]? with
      | none => exact ih
      | some r =>
        cases r with
        | nil => exact ih
        | cons y u =>
          simp only [Option.map_some, List.map_cons]
          rw [ih]
          cases hbk : bU ky nb R k with
          | none => rfl
          | some z =>
            simp only [Option.map_some]
            rw [hfr]
            split <;> rfl
  intro f
  induction f with
  | zero => intro R; rfl
  | succ f ih =>
    intro R
    unfold strmF
    rw [hb, List.length_map]
    cases hbk : bU ky nb R R.length with
    | none => rfl
    | some z =>
      simp only [Option.map_some, List.map_cons]
      congr 1
      rw [← ih, List.map_set]
      congr 2
      rw [List.getElem?_map]
      cases R[z.2]? with
      | none => rfl
      | some r => simp [List.map_tail]
theorem strm_map (ky : α → Int × Int) (ky' : β → Int × Int) (g : α → β) (hg : ∀ x, ky' (g x) = ky x) (nb : Bool) (R : List (List α)) : strm ky' nb (R.map (List.map g)) = (strm ky nb R).map g := by
  unfold strm
  rw [strmF_map ky ky' g hg]
  congr 2
  simp [totR, Function.comp_def]
end
end Go.Icz
