/-
  What was written of a batch is found again; with one byte more it is none. Conditions: those that each theorem names.
-/
import Derived.Test.YtffpphigmdehfaaDoorEntMath
import Derived.Test.YtffpphigmdehfaaDoorBatGet2
namespace Go.Proofs.YtffpphigmdehfaaDoor
open Go.RowKit Go.Icz
theorem txt_lt (s : ByteArray) : ∀ b ∈ txt s, b < 256 := fun b h => by
  unfold txt at h
  rcases List.mem_append.1 h with h | h
  · exact num_lt _ b h
  · exact nats_lt s b h
theorem entB_lt (x : Ent) : ∀ b ∈ entB x, b < 256 := fun b h => by
  unfold entB at h
  simp only [List.mem_append] at h
  rcases h with ((h | h) | h) | h
  · exact num_lt _ b h
  · exact num_lt _ b h
  · exact txt_lt _ b h
  · exact txt_lt _ b h
theorem batL_lt : ∀ (l : List Ent), ∀ b ∈ batL l, b < 256
  | [], b, h => by simp [batL] at h
  | x :: t, b, h => by
    simp only [batL, List.mem_append] at h
    rcases h with h | h
    · exact txt_lt _ b h
    · exact batL_lt t b h
theorem batB_lt (l : List Ent) : ∀ b ∈ batB l, b < 256 := fun b h => by
  unfold batB at h
  rcases List.mem_append.1 h with h | h
  · exact num_lt _ b h
  · exact batL_lt l b h
theorem batL_size : ∀ (l : List Ent), (∀ x ∈ l, entR x = true) → (batL l).length ≤ 5500 * l.length
  | [], _ => by simp [batL]
  | x :: t, h => by
    have h1 := batL_size t (fun y hy => h y (List.mem_cons_of_mem _ hy))
    have h2 := entB_len (h x (List.mem_cons_self ..))
    have h3 := txt_len2 (str (entB x)) (by rw [str_len]; omega)
    rw [str_len] at h3
    simp only [batL, List.length_append, List.length_cons]
    omega
theorem batB_size {l : List Ent} (h : batR l = true) : (batB l).length ≤ 100000 := by
  obtain ⟨⟨h1, h16⟩, hall⟩ := batR_all h
  have h2 := batL_size l hall
  have h3 := num_len8 (n := l.length) (by omega)
  unfold batB
  rw [List.length_append]
  omega
theorem entsD_bytes (l : List Ent) (r : List Nat) (hl : ∀ x ∈ l, entR x = true) : ∀ k, k ≤ l.length → entsD (batL l ++ r) 0 k = some (l.take k, batL (l.drop k) ++ r, 0)
  | 0, _ => by simp [entsD]
  | k + 1, hk => by
    have ih := entsD_bytes l r hl k (by omega)
    have hlt : k < l.length := by omega
    have hx := hl l[k] (List.getElem_mem hlt)
    have e1 : entsD (batL l ++ r) 0 (k + 1) = (entsD (batL l ++ r) 0 k).bind stepB := rfl
    rw [e1, ih, Option.bind_some, List.drop_eq_getElem_cons hlt, List.take_succ_eq_append_getElem hlt]
    generalize l[k] = x at *
    have hel := entB_len hx
    have t1 := txtD_txt (str (entB x)) (batL (l.drop (k + 1)) ++ r) (by rw [str_len]; omega)
    rw [nats_str _ (entB_lt x)] at t1
    obtain ⟨k1, k2⟩ := entOk_bytes hx
    unfold stepB
    simp only [batL, List.append_assoc]
    rw [t1]
    simp only
    rw [if_pos k1, k2]
theorem batG_bytes {l : List Ent} (h : batR l = true) (r : List Nat) : batG (batB l ++ r) = if r = [] then some l else none := by
  obtain ⟨⟨h1, h16⟩, hall⟩ := batR_all h
  have n1 := numD_num (n := l.length) (batL l ++ r) (by omega)
  have e1 := entsD_bytes l r hall l.length (Nat.le_refl _)
  rw [List.take_length, List.drop_length] at e1
  unfold batG batB
  rw [List.append_assoc, n1]
  simp only
  rw [if_neg (by omega), e1, Option.bind_some]
  cases r with
  | nil => simp [batL, doneD, h]
  | cons c t => simp [batL, doneD]
theorem batG_back {l : List Ent} (h : batR l = true) : batE (batB l) = l ∧ batN (batB l) = 0 := by
  have h1 := batG_bytes h []
  rw [List.append_nil, if_pos rfl] at h1
  exact bat_yes h1
theorem batG_more {l : List Ent} (h : batR l = true) (m : Nat) : batN (batB l ++ [m]) = 21 := by
  have h1 := batG_bytes h [m]
  rw [if_neg (by simp)] at h1
  exact (bat_no h1).2
end Go.Proofs.YtffpphigmdehfaaDoor
