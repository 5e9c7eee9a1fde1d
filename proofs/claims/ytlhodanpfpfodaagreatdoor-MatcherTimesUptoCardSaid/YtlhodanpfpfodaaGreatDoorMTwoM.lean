/-
  A pattern without signs fits just the text that it is: mathematics alone. Conditions: those that each theorem names.
-/
import Derived.Test.YtlhodanpfpfodaaGreatDoorMFit
import Derived.Lib.MapLaws
import Derived.Lib.RuneBytes
namespace Go.Proofs.YtlhodanpfpfodaaGreatDoor
open Go.RowKit Go.Icz
theorem runes_back (n : Nat) : ∀ (x : B8) (l : List Nat), x.length ≤ n → (∀ r ∈ l, r < 128) → runesS x = l → x.map (·.toNat) = l := by
  induction n with
  | zero =>
    intro x l hx _ he
    have := List.eq_nil_of_length_eq_zero (Nat.le_zero.1 hx)
    subst this
    rw [← he]
    rfl
  | succ n ih =>
    intro x l hx hl he
    by_cases hne : x = []
    · subst hne
      rw [← he]
      rfl
    · rw [runesS_step x hne] at he
      have hr : (Lib.decodeL x).1 < 128 := hl _ (by rw [← he]; simp)
      have hen := Lib.encode_decode x hne (fun h => by omega)
      have hle := Lib.decodeL_le x hne
      have hp := Lib.decodeL_width x
      have e1 : Lib.encodeRune ((Lib.decodeL x).1 : Int) = [UInt8.ofNat (Lib.decodeL x).1] := by
        unfold Lib.encodeRune
        rw [Lib.encodeRuneZ_one (by omega) (by omega)]
        simp
      rw [e1] at hen
      have hw : (Lib.decodeL x).2 = 1 := by
        have := congrArg List.length hen
        rw [List.length_take] at this
        simp at this
        omega
      obtain ⟨c, t, rfl⟩ := List.exists_cons_of_ne_nil hne
      rw [hw] at hen he
      simp only [List.take_succ_cons, List.take_zero, List.cons.injEq, and_true] at hen
      have hc : c.toNat = (Lib.decodeL (c :: t)).1 := (congrArg UInt8.toNat hen).symm.trans (UInt8.toNat_ofNat_of_lt' (by show _ < 256; omega))
      rw [List.map_cons, hc, ← he]
      congr 1
      exact ih t _ (by simp at hx; omega) (fun r h => hl r (by rw [← he]; simp only [List.drop_succ_cons, List.drop_zero, List.mem_cons]; exact .inr h)) rfl
theorem map_inj {a b : B8} (h : a.map (·.toNat) = b.map (·.toNat)) : a = b := by
  induction a generalizing b with
  | nil => cases b with | nil => rfl | cons _ _ => cases h
  | cons c t ih =>
    cases b with
    | nil => cases h
    | cons d u =>
      simp only [List.map_cons, List.cons.injEq] at h
      rw [UInt8.toNat_inj.1 h.1, ih h.2]
def plainC (c : UInt8) : Bool := decide (48 ≤ c.toNat) && decide (c.toNat ≤ 122) && decide (c.toNat ≠ 63) && decide (c.toNat ≠ 92)
theorem plain_facts {c : UInt8} (h : plainC c = true) : 48 ≤ c.toNat ∧ c.toNat ≤ 122 ∧ c.toNat ≠ 63 ∧ c.toNat ≠ 92 := by
  simp only [plainC, Bool.and_eq_true, decide_eq_true_eq] at h
  exact ⟨h.1.1.1, h.1.1.2, h.1.2, h.2⟩
theorem toks_plain : ∀ v : B8, (∀ c ∈ v, plainC c = true) → Gl.toks (v.map (·.toNat)) = (v.map fun c => Gl.Sg.lit c.toNat).map Gl.Tok.sg
  | [], _ => rfl
  | c :: v, h => by
    obtain ⟨h1, h2, h3, h4⟩ := plain_facts (h c (by simp))
    rw [List.map_cons, Gl.toks_sign h4 (by omega), toks_plain v (fun d hd => h d (by simp [hd]))]
    have e : Gl.signOf c.toNat = .lit c.toNat := by unfold Gl.signOf; rw [if_neg (by omega), if_neg h3]
    rw [e]
    rfl
theorem fit_only : ∀ (b s : List Nat), Gl.fit (b.map Gl.Sg.lit) s = true ↔ s = b
  | [], s => Gl.fit_nil s
  | x :: b, s => by
    rw [List.map_cons, Gl.fit_sign (by simp)]
    constructor
    · rintro ⟨c, t, rfl, h1, h2⟩
      have e : x = c := by simpa [Gl.Sg.hits] using h1
      rw [(fit_only b t).1 h2, e]
    · rintro rfl
      exact ⟨x, b, rfl, by simp [Gl.Sg.hits], (fit_only b b).2 rfl⟩
theorem runes_all (v : B8) (h : ∀ x ∈ v, x.toNat < 128) : runesS v = v.map (·.toNat) := by
  induction v with
  | nil => rfl
  | cons x t ih =>
    rw [runesS_step (x :: t) (by simp), Lib.decodeL_ascii x t (h x (by simp))]
    show _ :: runesS t = _
    rw [ih fun y hy => h y (by simp [hy])]
    rfl
theorem glob_plain (v x : B8) (h : ∀ c ∈ v, plainC c = true) : globS v x = (x == v) := by
  have hlo : ∀ c ∈ v, c.toNat < 128 := fun c hc => by have := plain_facts (h c hc); omega
  have hv := runes_all v hlo
  have hs : ∀ (l : List Gl.Sg) (acc : List Gl.Sg), Gl.split (l.map .sg) acc = [acc ++ l] := by
    intro l
    induction l with
    | nil => intro acc; simp [Gl.split]
    | cons g t ih =>
      intro acc
      show Gl.split (t.map .sg) (acc ++ [g]) = _
      rw [ih]
      simp
  unfold globS Gl.globR
  rw [hv, toks_plain v h, hs]
  have e : (v.map fun c => Gl.Sg.lit c.toNat) = (v.map (·.toNat)).map Gl.Sg.lit := by rw [List.map_map]; rfl
  rw [e]
  simp only [List.nil_append, List.any_cons, List.any_nil, Bool.or_false]
  rw [Bool.eq_iff_iff, fit_only, beq_iff_eq]
  constructor
  · intro he
    exact map_inj (runes_back x.length x _ (Nat.le_refl _) (fun r hr => by
      obtain ⟨c, hc, rfl⟩ := List.mem_map.1 hr
      exact hlo c hc) he)
  · intro he
    subst he
    exact hv
theorem getS_len (N : Nat) (n : B8) : ∀ l : List Lab, (∀ x ∈ l, x.2.length ≤ N) → (getS n l).1.length ≤ N
  | [], _ => by simp [getS]
  | x :: t, h => by
    unfold getS
    split
    · exact h x (by simp)
    · exact getS_len N n t fun y hy => h y (by simp [hy])
theorem two_math (v x : B8) (p : Bool) (hp : p = true → ∀ c ∈ v, plainC c = true) : (p = true → holdS 1 v x = holdS 3 v x) ∧ holdS 2 v x = !(holdS 1 v x) ∧ holdS 4 v x = !(holdS 3 v x) :=
  ⟨fun h => by show (x == v) = globS v x; rw [glob_plain v x (hp h)], rfl, rfl⟩
end Go.Proofs.YtlhodanpfpfodaaGreatDoor
