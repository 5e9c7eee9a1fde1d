/-
  Frames as lists: what is found of a frame with bytes behind it, of one that is cut off, of one with a byte that is another one. No memory, no program here. Conditions: those that each theorem names.
-/
import Derived.Test.YtpcmonebihgjhaaDoorUnframe
namespace Go.Proofs.YtpcmonebihgjhaaDoor
open Go.Icy

theorem beN_be4 {c : Nat} (h : c < 4294967296) : beN (be4 c) = c := by
  simp only [beN, be4, List.foldl_cons, List.foldl_nil]
  omega
theorem be4_lt {c : Nat} (h : c < 4294967296) : ∀ x ∈ be4 c, x < 256 := by
  intro x hx
  simp only [be4, List.mem_cons, List.not_mem_nil, or_false] at hx
  omega
theorem be4_set {c i y : Nat} (_h : c < 4294967296) (hy : y < 256) (hi : i < 4) (hne : y ≠ (be4 c)[i]'(by simpa [be4] using hi)) : beN ((be4 c).set i y) ≠ c := by
  match i, hi with
  | 0, _ => simp [be4, beN] at hne ⊢; omega
  | 1, _ => simp [be4, beN] at hne ⊢; omega
  | 2, _ => simp [be4, beN] at hne ⊢; omega
  | 3, _ => simp [be4, beN] at hne ⊢; omega

theorem frm_len (k : Nat) (b : List Nat) : (frm k b).length = 2 + (num b.length).length + 4 + b.length := by
  simp [frm, hd, be4]
  omega
theorem frm_split (k : Nat) (b : List Nat) : frm k b = 165 :: k :: (num b.length ++ (be4 (crc (hd k b.length ++ b)) ++ b)) := by
  simp [frm, hd, List.append_assoc]
theorem frm_lt {k : Nat} {b : List Nat} (hk : k < 256) (hb : ∀ c ∈ b, c < 256) : ∀ c ∈ frm k b, c < 256 := by
  have hC := crc_lt (hd k b.length ++ b) (by intro c hc; rcases List.mem_append.1 hc with h | h; exact hd_lt hk c h; exact hb c h)
  intro c hc
  rw [frm_split] at hc
  simp only [List.mem_cons, List.mem_append] at hc
  rcases hc with rfl | rfl | h | h | h
  · omega
  · exact hk
  · exact num_lt _ c h
  · exact be4_lt hC c h
  · exact hb c h
theorem crc_frm_lt {k : Nat} {b : List Nat} (hk : k < 256) (hb : ∀ c ∈ b, c < 256) : crc (hd k b.length ++ b) < 4294967296 :=
  crc_lt _ (by intro c hc; rcases List.mem_append.1 hc with h | h; exact hd_lt hk c h; exact hb c h)

/-- The parts of bytes that begin 165, k', a number, four bytes, and so many more. -/
theorem parts (k : Nat) (q m b rest : List Nat) (hm : m.length = 4) :
    ((165 :: k :: (q ++ (m ++ (b ++ rest)))).drop 2) = q ++ (m ++ (b ++ rest)) ∧
    ((165 :: k :: (q ++ (m ++ (b ++ rest)))).drop 1).take (1 + q.length) = k :: q ∧
    ((165 :: k :: (q ++ (m ++ (b ++ rest)))).drop (2 + q.length)).take 4 = m ∧
    ((165 :: k :: (q ++ (m ++ (b ++ rest)))).drop (2 + q.length + 4)).take b.length = b := by
  have e1 : (165 :: k :: (q ++ (m ++ (b ++ rest)))).drop (2 + q.length) = m ++ (b ++ rest) := by
    rw [Nat.add_comm 2, show q.length + 2 = (q.length + 1) + 1 by omega, List.drop_succ_cons, List.drop_succ_cons, List.drop_left]
  refine ⟨rfl, ?_, ?_, ?_⟩
  · rw [List.drop_succ_cons, List.drop_zero, Nat.add_comm 1, List.take_succ_cons, List.take_left]
  · rw [e1, ← hm, List.take_left]
  · rw [← List.drop_drop, e1, ← hm, List.drop_left, List.take_left]

/-! A frame with bytes behind it. -/
section
variable {k : Nat} {b rest : List Nat} (hk : k < 256) (hb : ∀ c ∈ b, c < 256) (hlen : b.length ≤ 1048576)
include hlen
theorem first_num : rdn ((frm k b ++ rest).drop 2) = (b.length, (num b.length).length, 0) := by
  rw [frm_split]
  simp only [List.cons_append, List.drop_succ_cons, List.drop_zero, List.append_assoc]
  exact rdn_num _ (by omega)
end
theorem first_parts (k : Nat) (b rest : List Nat) :
    ((frm k b ++ rest).drop 1).take (1 + (num b.length).length) = hd k b.length ∧
    ((frm k b ++ rest).drop (2 + (num b.length).length)).take 4 = be4 (crc (hd k b.length ++ b)) ∧
    ((frm k b ++ rest).drop (2 + (num b.length).length + 4)).take b.length = b := by
  have h := parts k (num b.length) (be4 (crc (hd k b.length ++ b))) b rest rfl
  have e : frm k b ++ rest = 165 :: k :: (num b.length ++ (be4 (crc (hd k b.length ++ b)) ++ (b ++ rest))) := by rw [frm_split]; simp
  rw [e]
  exact h.2

/-! A frame that is cut off. -/
theorem cut_num {k : Nat} {b : List Nat} (hlen : b.length ≤ 1048576) {c : Nat} (h2 : 2 ≤ c) (hc : c < 2 + (num b.length).length) : rdn (((frm k b).take c).drop 2) = (0, 0, 20) := by
  rw [frm_split]
  obtain ⟨d, rfl⟩ : ∃ d, c = d + 2 := ⟨c - 2, by omega⟩
  rw [List.take_succ_cons, List.take_succ_cons]
  simp only [List.drop_succ_cons, List.drop_zero]
  rw [List.take_append_of_le_length (by omega)]
  exact rdn_cut (by omega) (by omega)
theorem cut_rest {k : Nat} {b : List Nat} (hlen : b.length ≤ 1048576) {c : Nat} (hc : 2 + (num b.length).length ≤ c) : rdn (((frm k b).take c).drop 2) = (b.length, (num b.length).length, 0) := by
  rw [frm_split]
  obtain ⟨d, rfl⟩ : ∃ d, c = d + 2 := ⟨c - 2, by omega⟩
  rw [List.take_succ_cons, List.take_succ_cons]
  simp only [List.drop_succ_cons, List.drop_zero]
  rw [List.take_append, List.take_of_length_le (by omega)]
  exact rdn_num _ (by omega)

/-! A number with a byte that is another one. -/
theorem rdGo_ge : ∀ (l : List Nat) (q a n s : Nat), 0 < q → rdGo l q a = (n, s, 0) → 128 ^ q ≤ n ∧ q < s
  | [], _, _, _, _, _, h => by simp [rdGo] at h
  | c :: l, q, a, n, s, hq, h => by
    rw [rdGo] at h
    split at h
    · have h1 := rdGo_ge l (q + 1) _ n s (by omega) h
      have h2 : 128 ^ q ≤ 128 ^ (q + 1) := Nat.pow_le_pow_right (by omega) (by omega)
      omega
    · split at h
      · simp at h
      · rename_i h1 h2
        simp only [Prod.mk.injEq] at h
        have h3 : 1 * 128 ^ q ≤ c % 128 * 128 ^ q := Nat.mul_le_mul_right _ (by omega)
        omega
theorem mul_ne {x y p : Nat} (hp : 0 < p) (h : x ≠ y) : x * p ≠ y * p := fun e => h (Nat.eq_of_mul_eq_mul_right hp e)
theorem rdGo_rot : ∀ (m i p a n s y : Nat) (rest : List Nat) (hi : i < (num m).length), m < 128 ^ (8 - p) → p < 8 → a < 128 ^ p → y < 256 → y ≠ (num m)[i] →
    rdGo ((num m).set i y ++ rest) p a = (n, s, 0) → s + n ≠ p + (num m).length + (a + m * 128 ^ p)
  | m, i, p, a, n, s, y, rest, hi, hm, hp, ha, hy, hne, h => by
    have hpos : 0 < 128 ^ p := Nat.pow_pos (by omega)
    have hsucc : 128 ^ (p + 1) = 128 ^ p * 128 := Nat.pow_succ _ _
    by_cases h1 : m < 128
    · have e : num m = [m] := num_lo h1
      have hi0 : i = 0 := by rw [e] at hi; simpa using hi
      subst hi0
      have hne' : y ≠ m := by
        have : (num m)[0] = m := by simp [e]
        rwa [this] at hne
      rw [e] at h ⊢
      simp only [List.set_cons_zero, List.singleton_append, List.length_singleton] at h ⊢
      have hle : m * 128 ^ p ≤ 127 * 128 ^ p := Nat.mul_le_mul_right _ (by omega)
      by_cases hy1 : y < 128
      · by_cases hy0 : y ≠ 0 ∨ p = 0
        · rw [rdGo_end hy1 hy0] at h
          simp only [Prod.mk.injEq] at h
          have := mul_ne hpos hne'
          omega
        · rw [rdGo_bad (by omega) (.inr (by omega))] at h
          simp at h
      · by_cases hp7 : p < 7
        · rw [rdGo_more (by omega) hp7] at h
          have := rdGo_ge rest (p + 1) _ n s (by omega) h
          omega
        · rw [rdGo_bad (by omega) (.inl (by omega))] at h
          simp at h
    · have e : num m = (m % 128 + 128) :: num (m / 128) := num_hi h1
      have hp7 : p < 7 := by
        rcases Nat.lt_or_ge p 7 with h | h
        · exact h
        · have : 8 - p = 1 := by omega
          rw [this] at hm
          omega
      have hpw : 128 ^ (8 - p) = 128 ^ (8 - (p + 1)) * 128 := by
        rw [← Nat.pow_succ]
        congr 1
        omega
      have hm2 : m / 128 < 128 ^ (8 - (p + 1)) := by rw [Nat.div_lt_iff_lt_mul (by omega), ← hpw]; exact hm
      have hsum : m * 128 ^ p = m % 128 * 128 ^ p + m / 128 * 128 ^ (p + 1) := by
        rw [hsucc, Nat.mul_comm (128 ^ p), ← Nat.mul_assoc, ← Nat.add_mul]
        congr 1
        omega
      match i, hi with
      | 0, hi =>
        have hne' : y ≠ m % 128 + 128 := by
          have : (num m)[0] = m % 128 + 128 := by simp [e]
          rwa [this] at hne
        rw [e] at h ⊢
        simp only [List.set_cons_zero, List.cons_append, List.length_cons] at h ⊢
        have hl := num_pos (m / 128)
        by_cases hy1 : y < 128
        · by_cases hy0 : y ≠ 0 ∨ p = 0
          · rw [rdGo_end hy1 hy0] at h
            simp only [Prod.mk.injEq] at h
            have h3 : y * 128 ^ p ≤ m * 128 ^ p := Nat.mul_le_mul_right _ (by omega)
            omega
          · rw [rdGo_bad (by omega) (.inr (by omega))] at h
            simp at h
        · rw [rdGo_more (by omega) hp7, rdGo_num (m / 128) (p + 1) _ rest hm2 (by omega) (.inl (by omega))] at h
          simp only [Prod.mk.injEq] at h
          have := mul_ne hpos (show y % 128 ≠ m % 128 by omega)
          omega
      | i + 1, hi =>
        have hi' : i < (num (m / 128)).length := by rw [e] at hi; simpa using hi
        have hne' : y ≠ (num (m / 128))[i] := by
          have : (num m)[i + 1] = (num (m / 128))[i] := by simp [e]
          rwa [this] at hne
        rw [e] at h ⊢
        simp only [List.set_cons_succ, List.cons_append, List.length_cons] at h ⊢
        rw [rdGo_more (by omega) hp7] at h
        have e1 : (m % 128 + 128) % 128 = m % 128 := by omega
        rw [e1] at h
        have hle : m % 128 * 128 ^ p ≤ 127 * 128 ^ p := Nat.mul_le_mul_right _ (by omega)
        have := rdGo_rot (m / 128) i (p + 1) (a + m % 128 * 128 ^ p) n s y rest hi' hm2 (by omega) (by omega) hy hne' h
        omega
  termination_by m => m
  decreasing_by omega

theorem set_split {l : List Nat} {i y : Nat} (hi : i < l.length) : l.set i y = l.take i ++ y :: l.drop (i + 1) := List.set_eq_take_append_cons_drop.trans (if_pos hi)
theorem get_split {l : List Nat} {i : Nat} (hi : i < l.length) : l = l.take i ++ l[i] :: l.drop (i + 1) := by
  rw [← List.drop_eq_getElem_cons hi, List.take_append_drop]
theorem crc_set {h b : List Nat} {i y : Nat} (hh : ∀ c ∈ h, c < 256) (hb : ∀ c ∈ b, c < 256) (hi : i < b.length) (hy : y < 256) (hne : y ≠ b[i]) : crc (h ++ b.set i y) ≠ crc (h ++ b) := by
  have e1 : h ++ b.set i y = (h ++ b.take i) ++ y :: b.drop (i + 1) := by rw [set_split hi, List.append_assoc]
  have e2 : h ++ b = (h ++ b.take i) ++ b[i] :: b.drop (i + 1) := by
    conv => lhs; rw [get_split hi]
    rw [List.append_assoc]
  rw [e1, e2]
  exact crc_one (fun x hx => by
    rcases List.mem_append.1 hx with hx | hx
    · exact hh x hx
    · exact hb x (List.mem_of_mem_take hx)) (fun x hx => hb x (List.mem_of_mem_drop hx)) hy (hb _ (List.getElem_mem hi)) hne

/-- A frame with a byte that is another one: what is found is never all of it. -/
theorem rot {k : Nat} {b : List Nat} (hk : k < 256) (hb : ∀ c ∈ b, c < 256) (hlen : b.length ≤ 1048576) {j y : Nat} (hj : j < (frm k b).length) (hy : y < 256) (hne : y ≠ (frm k b)[j])
    (h165 : ((frm k b).set j y).head? = some 165) {n s : Nat} (hr : rdn (((frm k b).set j y).drop 2) = (n, s, 0)) (hall : 2 + s + 4 + n = (frm k b).length)
    (hsum : beN ((((frm k b).set j y).drop (2 + s)).take 4) = crc ((((frm k b).set j y).drop 1).take (1 + s) ++ (((frm k b).set j y).drop (2 + s + 4)).take n)) : False := by
  have hC := crc_frm_lt hk hb
  have hL := frm_len k b
  have hfs := frm_split k b
  obtain ⟨C, hCe⟩ : ∃ C, crc (hd k b.length ++ b) = C := ⟨_, rfl⟩
  rw [hCe] at hC hfs
  have hnum : b.length < 72057594037927936 := by omega
  have h4 : (be4 C).length = 4 := rfl
  match j, hj, hne with
  | 0, hj, hne =>
    rw [hfs] at h165
    simp only [List.set_cons_zero, List.head?_cons, Option.some.injEq] at h165
    have : (frm k b)[0] = 165 := by simp [hfs]
    omega
  | 1, hj, hne =>
    have hk1 : (frm k b)[1] = k := by simp [hfs]
    rw [hk1] at hne
    have e : (frm k b).set 1 y = 165 :: y :: (num b.length ++ (be4 C ++ (b ++ []))) := by rw [hfs]; simp
    rw [e] at hr hsum
    obtain ⟨p1, p2, p3, p4⟩ := parts y (num b.length) (be4 C) b [] h4
    rw [p1, rdn_num _ hnum] at hr
    simp only [Prod.mk.injEq] at hr
    obtain ⟨rfl, rfl, _⟩ := hr
    rw [p2, p3, p4, beN_be4 hC, ← hCe] at hsum
    exact crc_one (l := []) (m := num b.length ++ b) (c := k) (d := y) (by simp) (by intro x hx; rcases List.mem_append.1 hx with h | h; exact num_lt _ x h; exact hb x h) hk hy (fun h => hne h.symm) hsum
  | j + 2, hj, hne =>
    have hg : (frm k b)[j + 2] = (num b.length ++ (be4 C ++ b))[j]'(by simp; omega) := by simp [hfs]
    rw [hg] at hne
    have e0 : (frm k b).set (j + 2) y = 165 :: k :: ((num b.length ++ (be4 C ++ b)).set j y) := by rw [hfs]; rfl
    rcases Nat.lt_or_ge j (num b.length).length with h1 | h1
    · -- a byte of the number
      rw [List.getElem_append_left h1] at hne
      rw [e0, List.set_append_left _ _ h1] at hr
      simp only [List.drop_succ_cons, List.drop_zero] at hr
      have := rdGo_rot b.length j 0 0 n s y (be4 C ++ b) h1 (by simpa using hnum) (by omega) (by omega) hy hne hr
      omega
    · rw [List.getElem_append_right h1] at hne
      rw [List.set_append_right _ _ h1] at e0
      rcases Nat.lt_or_ge (j - (num b.length).length) (be4 C).length with h2 | h2
      · -- a byte of the sum
        rw [List.getElem_append_left h2] at hne
        rw [List.set_append_left _ _ h2] at e0
        have e : (frm k b).set (j + 2) y = 165 :: k :: (num b.length ++ ((be4 C).set (j - (num b.length).length) y ++ (b ++ []))) := by rw [e0, List.append_nil]
        rw [e] at hr hsum
        obtain ⟨p1, p2, p3, p4⟩ := parts k (num b.length) ((be4 C).set (j - (num b.length).length) y) b [] (by simpa using h4)
        rw [p1, rdn_num _ hnum] at hr
        simp only [Prod.mk.injEq] at hr
        obtain ⟨rfl, rfl, _⟩ := hr
        rw [p2, p3, p4] at hsum
        exact be4_set hC hy (by omega) hne (hsum.trans hCe)
      · -- a byte of what is in it
        rw [List.getElem_append_right h2] at hne
        rw [List.set_append_right _ _ h2] at e0
        have hi : j - (num b.length).length - (be4 C).length < b.length := by omega
        have e : (frm k b).set (j + 2) y = 165 :: k :: (num b.length ++ (be4 C ++ (b.set (j - (num b.length).length - (be4 C).length) y ++ []))) := by rw [e0, List.append_nil]
        rw [e] at hr hsum
        obtain ⟨p1, p2, p3, p4⟩ := parts k (num b.length) (be4 C) (b.set (j - (num b.length).length - (be4 C).length) y) [] h4
        rw [p1, rdn_num _ hnum] at hr
        simp only [Prod.mk.injEq] at hr
        obtain ⟨rfl, rfl, _⟩ := hr
        rw [List.length_set] at p4
        rw [p2, p3, p4, beN_be4 hC, ← hCe] at hsum
        exact crc_set (hd_lt hk) hb hi hy hne hsum.symm
end Go.Proofs.YtpcmonebihgjhaaDoor
