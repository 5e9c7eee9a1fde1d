/-
  Rows that are parts of one ordered list, each number once, merged again, are that list. No condition.
-/
import Derived.Test.YtcffagfkpkfgbaaMpm
namespace Go.Icz
open Go.RowKit
section
variable {α : Type} (ky : α → Int × Int)
theorem leq_turn {x y : α} : leq ky true x y ↔ leq ky false y x := by
  unfold leq frst
  exact Iff.rfl
theorem leq_anti {nb : Bool} {x y : α} (h1 : leq ky nb x y) (h2 : leq ky nb y x) : (ky x).2 = (ky y).2 := by
  unfold leq frst bef at *
  cases nb <;> simp at * <;> omega
theorem sorted_turn {l : List α} (h : l.Pairwise (leq ky false)) : l.reverse.Pairwise (leq ky true) :=
  List.pairwise_reverse.2 (h.imp fun h => (leq_turn ky).2 h)
theorem key_inj : ∀ {s : List α}, (s.map fun x => (ky x).2).Nodup → ∀ x ∈ s, ∀ y ∈ s, (ky x).2 = (ky y).2 → x = y
  | z :: s, h, x, hx, y, hy, e => by
    rw [List.map_cons, List.nodup_cons] at h
    rcases List.mem_cons.1 hx with ex | hx2 <;> rcases List.mem_cons.1 hy with ey | hy2
    · rw [ex, ey]
    · exact absurd (List.mem_map.2 ⟨y, hy2, by rw [← e, ex]⟩ : (ky z).2 ∈ s.map fun x => (ky x).2) h.1
    · exact absurd (List.mem_map.2 ⟨x, hx2, by rw [e, ey]⟩ : (ky z).2 ∈ s.map fun x => (ky x).2) h.1
    · exact key_inj h.2 x hx2 y hy2 e
/-- Two ordered lists of the same things, each number once, are the same. -/
theorem sorted_one {nb : Bool} {a b : List α} (ha : a.Pairwise (leq ky nb)) (hb : b.Pairwise (leq ky nb)) (hd : (b.map fun x => (ky x).2).Nodup) (hp : a.Perm b) : a = b :=
  hp.eq_of_pairwise (fun x y hx hy h1 h2 => key_inj ky hd x (hp.mem_iff.1 hx) y hy (leq_anti ky h1 h2)) ha hb
theorem outs_nodup : ∀ (met : List Int) (S : List α), ((outs ky met S).map fun x => (ky x).2).Nodup ∧ ∀ x ∈ outs ky met S, (ky x).2 ∉ met
  | _, [] => ⟨List.nodup_nil, by intro x hx; cases hx⟩
  | met, x :: S => by
    rw [outs]
    split
    · exact outs_nodup met S
    · rename_i hn
      have ih := outs_nodup ((ky x).2 :: met) S
      refine ⟨?_, ?_⟩
      · rw [List.map_cons, List.nodup_cons]
        refine ⟨fun hm => ?_, ih.1⟩
        obtain ⟨y, hy, e⟩ := List.mem_map.1 hm
        exact ih.2 y hy (by rw [e]; exact List.mem_cons_self)
      · intro y hy
        rcases List.mem_cons.1 hy with rfl | hy
        · exact hn
        · exact fun hm => ih.2 y hy (List.mem_cons_of_mem _ hm)
theorem outs_all : ∀ (met : List Int) (S : List α) (x : α), x ∈ S → (ky x).2 ∈ met ∨ ∃ y ∈ outs ky met S, (ky y).2 = (ky x).2
  | met, z :: S, x, hx => by
    rw [outs]
    split
    · rename_i hm
      rcases List.mem_cons.1 hx with rfl | hx
      · exact .inl hm
      · exact outs_all met S x hx
    · rcases List.mem_cons.1 hx with rfl | hx
      · exact .inr ⟨x, List.mem_cons_self, rfl⟩
      · rcases outs_all ((ky z).2 :: met) S x hx with h | ⟨y, hy, e⟩
        · rcases List.mem_cons.1 h with h | h
          · exact .inr ⟨z, List.mem_cons_self, h.symm⟩
          · exact .inl h
        · exact .inr ⟨y, List.mem_cons_of_mem _ hy, e⟩
/-- THE ROWS, MERGED: the list. -/
theorem merged_is {nb : Bool} {R : List (List α)} {s : List α} (hs : s.Pairwise (leq ky nb)) (hd : (s.map fun x => (ky x).2).Nodup) (hR : ∀ r ∈ R, r.Sublist s) (hall : ∀ x ∈ s, ∃ r ∈ R, x ∈ r) : outs ky [] (strm ky nb R) = s := by
  have hno := outs_nodup ky [] (strm ky nb R)
  have hso := (strm_sorted ky nb _ R rfl (fun r hr => hs.sublist (hR r hr))).sublist (outs_sub ky [] _)
  have hin : ∀ x ∈ outs ky [] (strm ky nb R), x ∈ s := fun x hx => by
    obtain ⟨r, hr, hxr⟩ := (strm_mem ky nb _ R rfl x).1 ((outs_sub ky [] _).subset hx)
    exact (hR r hr).subset hxr
  have nd : ∀ {l : List α}, (l.map fun x => (ky x).2).Nodup → l.Nodup := fun {l} h => by
    unfold List.Nodup at *
    rw [List.pairwise_map] at h
    exact h.imp fun h e => h (by rw [e])
  refine sorted_one ky hso hs hd ((List.perm_ext_iff_of_nodup (nd hno.1) (nd hd)).2 fun x => ⟨hin x, fun hx => ?_⟩)
  obtain ⟨r, hr, hxr⟩ := hall x hx
  rcases outs_all ky [] (strm ky nb R) x ((strm_mem ky nb _ R rfl x).2 ⟨r, hr, hxr⟩) with h | ⟨y, hy, e⟩
  · cases h
  · rw [← key_inj ky hd y (hin y hy) x hx e]
    exact hy
/-- So many times the same list, put in behind what is not greater, ahead of what is. -/
theorem ins_sorted {O : List α} {x : α} {k : Nat} (hO : O.Pairwise (leq ky false)) (hk : k ≤ O.length) (h1 : ∀ j (hj : j < O.length), k ≤ j → bef ky x O[j] = true) (h2 : ∀ (_ : 0 < k) (hj : k - 1 < O.length), bef ky x O[k - 1] = false) :
    (O.take k ++ [x] ++ O.drop k).Pairwise (leq ky false) := by
  have hsub := hO
  rw [← List.take_append_drop k O, List.pairwise_append] at hsub
  obtain ⟨p1, p2, p3⟩ := hsub
  have e1 : ∀ y ∈ O.drop k, leq ky false x y := fun y hy => by
    obtain ⟨j, hj, rfl⟩ := List.getElem_of_mem hy
    rw [List.length_drop] at hj
    rw [List.getElem_drop]
    have := h1 (k + j) (by omega) (by omega)
    unfold leq frst bef at *
    simp at *
    omega
  have e2 : ∀ y ∈ O.take k, leq ky false y x := fun y hy => by
    obtain ⟨j, hj, rfl⟩ := List.getElem_of_mem hy
    rw [List.length_take] at hj
    have hl : leq ky false O[k - 1] x := h2 (by omega) (by omega)
    rw [List.getElem_take]
    by_cases e : j = k - 1
    · subst e; exact hl
    · exact leq_trans ky ((List.pairwise_iff_getElem.1 hO) j (k - 1) (by omega) (by omega) (by omega)) hl
  rw [List.append_assoc, List.pairwise_append]
  refine ⟨p1, ?_, fun a ha b hb => ?_⟩
  · rw [List.singleton_append, List.pairwise_cons]
    exact ⟨e1, p2⟩
  · rcases List.mem_cons.1 hb with rfl | hb
    · exact e2 a ha
    · exact p3 a ha b hb
theorem ins_perm {O L : List α} {x : α} (k : Nat) (h : O.Perm L) : (O.take k ++ [x] ++ O.drop k).Perm (L ++ [x]) := by
  have h1 : (O.take k ++ [x] ++ O.drop k).Perm (x :: O) := by
    rw [List.append_assoc]
    refine (List.perm_middle (l₁ := O.take k) (a := x) (l₂ := O.drop k)).trans ?_
    rw [List.take_append_drop]
  exact h1.trans ((h.cons x).trans (List.perm_append_singleton x L).symm)
end
end Go.Icz
