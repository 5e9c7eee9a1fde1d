/-
  What was written of labels and entries is found again; with one byte more or less it is none. Conditions: those that each theorem names.
-/
import Derived.Test.YtffpphigmdehfaaDoorEntGet
import Derived.Test.YtffpphigmdehfaaDoorEntPutB
namespace Go.Proofs.YtffpphigmdehfaaDoor
open Go.RowKit Go.Icz
theorem bt_nats (s : B8) : bt (nats ⟨s.toArray⟩) = s := by
  unfold bt nats
  simp only [List.map_map]
  have h : (fun n : Nat => UInt8.ofNat n) ∘ UInt8.toNat = id := by funext x; exact UInt8.ofNat_toNat
  rw [h]
  simp
theorem numD_num {n : Nat} (r : List Nat) (h : n < 72057594037927936) : numD (num n ++ r) 0 = (n, r, 0) := by
  unfold numD
  rw [rdn_num r h]
  simp
theorem rdt_txt (s : ByteArray) (r : List Nat) (h : s.size ≤ 65536) : rdt (txt s ++ r) = (nats s, (txt s).length, 0) := by
  have e := rdn_num (m := s.size) (nats s ++ r) (by omega)
  have hn := nats_len s
  unfold rdt txt
  rw [List.append_assoc, e]
  simp only
  rw [if_neg (by simp), if_neg (by omega), if_neg (by simp only [List.length_append]; omega)]
  simp [← hn]
theorem rdt_cut (s : ByteArray) (k : Nat) (h : s.size ≤ 65536) (hk : k < (txt s).length) : (rdt ((txt s).take k)).2.2 ≠ 0 := by
  have hn := nats_len s
  unfold txt at hk ⊢
  rw [List.length_append] at hk
  by_cases h1 : k < (num s.size).length
  · rw [List.take_append_of_le_length (by omega)]
    unfold rdt
    rw [rdn_cut (by omega) h1]
    simp
  · rw [List.take_append, List.take_of_length_le (by omega)]
    have e := rdn_num (m := s.size) ((nats s).take (k - (num s.size).length)) (by omega)
    unfold rdt
    rw [e]
    simp only
    rw [if_neg (by simp), if_neg (by omega), if_pos (by simp only [List.length_append, List.length_take]; omega)]
    simp
theorem txtD_txt (s : ByteArray) (r : List Nat) (h : s.size ≤ 65536) : txtD (txt s ++ r) 0 = (nats s, r, 0) := by
  unfold txtD
  rw [rdt_txt s r h]
  simp
theorem txtD_cut (s : ByteArray) (k : Nat) (h : s.size ≤ 65536) (hk : k < (txt s).length) : (txtD ((txt s).take k) 0).2.2 ≠ 0 := by
  have h1 := rdt_cut s k h hk
  unfold txtD
  rw [if_neg (by simp), if_pos h1]
  exact h1
theorem bytesL_lt : ∀ (l : List Lab), ∀ b ∈ bytesL l, b < 256
  | [], b, h => by simp [bytesL] at h
  | x :: t, b, h => by
    simp only [bytesL, List.mem_append] at h
    have ht : ∀ s : ByteArray, b ∈ txt s → b < 256 := fun s h => by
      unfold txt at h
      rcases List.mem_append.1 h with h | h
      · exact num_lt _ b h
      · exact nats_lt s b h
    rcases h with (h | h) | h
    · exact ht _ h
    · exact ht _ h
    · exact bytesL_lt t b h
theorem bytesN_lt (l : List Lab) : ∀ b ∈ bytesN l, b < 256 := fun b h => by
  unfold bytesN at h
  rcases List.mem_append.1 h with h | h
  · exact num_lt _ b h
  · exact bytesL_lt l b h
theorem labsD_bytes (l : List Lab) (r : List Nat) (hl : ∀ x ∈ l, x.1.length ≤ 128 ∧ x.2.length ≤ 128) : ∀ k, k ≤ l.length → labsD (bytesL l ++ r) 0 k = (l.take k, bytesL (l.drop k) ++ r, 0)
  | 0, _ => by simp [labsD]
  | k + 1, hk => by
    have ih := labsD_bytes l r hl k (by omega)
    have hlt : k < l.length := by omega
    have hx := hl l[k] (List.getElem_mem hlt)
    unfold labsD
    rw [ih, List.drop_eq_getElem_cons hlt]
    generalize hy : l[k] = x at *
    have t1 := txtD_txt ⟨x.1.toArray⟩ (txt ⟨x.2.toArray⟩ ++ (bytesL (l.drop (k + 1)) ++ r)) (by rw [Lib.size_mk]; omega)
    have t2 := txtD_txt ⟨x.2.toArray⟩ (bytesL (l.drop (k + 1)) ++ r) (by rw [Lib.size_mk]; omega)
    unfold stepD
    simp only [bytesL, List.append_assoc]
    rw [t1]
    simp only
    rw [t2]
    simp only [bt_nats]
    rw [List.take_succ_eq_append_getElem hlt, hy]
theorem readS_bytes {l : List Lab} (hr : rightS l = true) : readS (bytesN l) = (l, 0) := by
  obtain ⟨h16, hal⟩ := right_lens hr
  have h1 : numD (bytesN l) 0 = (l.length, bytesL l, 0) := numD_num _ (by omega)
  have h2 := labsD_bytes l [] hal l.length (Nat.le_refl _)
  rw [List.append_nil, List.take_length, List.drop_length] at h2
  unfold readS
  rw [h1]
  simp only
  rw [h2, if_neg (by omega)]
  simp [bytesL, doneD, hr]
theorem entParts_bytes {x : Ent} (hx : entR x = true) (r : List Nat) : entParts (entB x ++ r) = (x.seq.toNat, x.time.toNat, bytesN x.labs, nats ⟨x.line.toArray⟩, doneD r 0) := by
  unfold entR at hx
  simp only [Bool.and_eq_true, decide_eq_true_eq] at hx
  obtain ⟨⟨⟨⟨s1, s2⟩, u1, u2⟩, l1⟩, hrr⟩ := hx
  have hbl := bytesN_len hrr
  have n1 := numD_num (n := x.seq.toNat) (num x.time.toNat ++ (txt (str (bytesN x.labs)) ++ (txt ⟨x.line.toArray⟩ ++ r))) (by omega)
  have n2 := numD_num (n := x.time.toNat) (txt (str (bytesN x.labs)) ++ (txt ⟨x.line.toArray⟩ ++ r)) (by omega)
  have t1 := txtD_txt (str (bytesN x.labs)) (txt ⟨x.line.toArray⟩ ++ r) (by rw [str_len]; omega)
  have t2 := txtD_txt ⟨x.line.toArray⟩ r (by rw [Lib.size_mk]; omega)
  unfold entParts entB
  simp only [List.append_assoc]
  rw [n1]
  simp only
  rw [n2]
  simp only
  rw [t1]
  simp only
  rw [t2, nats_str _ (bytesN_lt _)]
theorem entOf_bytes {x : Ent} (hx : entR x = true) (r : List Nat) : entOf (entB x ++ r) = x := by
  have h := entParts_bytes hx r
  unfold entR at hx
  simp only [Bool.and_eq_true, decide_eq_true_eq] at hx
  obtain ⟨⟨⟨⟨s1, s2⟩, u1, u2⟩, l1⟩, hrr⟩ := hx
  unfold entOf
  rw [h]
  simp only
  rw [readS_bytes hrr, bt_nats, Int.toNat_of_nonneg (by omega), Int.toNat_of_nonneg (by omega)]
theorem entOk_bytes {x : Ent} (hx : entR x = true) : entOk (entB x) = true ∧ entOf (entB x) = x := by
  have h := entParts_bytes hx []
  have h2 := entOf_bytes hx []
  rw [List.append_nil] at h h2
  refine ⟨?_, h2⟩
  have hrr : rightS x.labs = true := by
    unfold entR at hx
    simp only [Bool.and_eq_true, decide_eq_true_eq] at hx
    exact hx.2
  unfold entOk
  rw [h2, h]
  simp only
  rw [readS_bytes hrr, hx]
  rfl
theorem entOk_more {x : Ent} (hx : entR x = true) (m : Nat) : entOk (entB x ++ [m]) = false := by
  have h := entParts_bytes hx [m]
  unfold entOk
  rw [h]
  simp [doneD]
theorem txt_pos (s : ByteArray) : 0 < (txt s).length := by
  have := num_pos s.size
  unfold txt
  rw [List.length_append]
  omega
theorem entB_pos (x : Ent) : 0 < (entB x).length := by
  have := txt_pos ⟨x.line.toArray⟩
  unfold entB
  rw [List.length_append]
  omega
theorem entOk_less {x : Ent} (hx : entR x = true) : entOk ((entB x).take ((entB x).length - 1)) = false := by
  have hp := txt_pos ⟨x.line.toArray⟩
  unfold entR at hx
  simp only [Bool.and_eq_true, decide_eq_true_eq] at hx
  obtain ⟨⟨⟨⟨s1, s2⟩, u1, u2⟩, l1⟩, hrr⟩ := hx
  have hbl := bytesN_len hrr
  have e : (entB x).take ((entB x).length - 1) = num x.seq.toNat ++ (num x.time.toNat ++ (txt (str (bytesN x.labs)) ++ (txt ⟨x.line.toArray⟩).take ((txt ⟨x.line.toArray⟩).length - 1))) := by
    unfold entB
    rw [List.take_append, List.take_of_length_le (by simp only [List.length_append]; omega), List.append_assoc, List.append_assoc]
    congr 4
    simp only [List.length_append]
    omega
  have n1 := numD_num (n := x.seq.toNat) (num x.time.toNat ++ (txt (str (bytesN x.labs)) ++ (txt ⟨x.line.toArray⟩).take ((txt ⟨x.line.toArray⟩).length - 1))) (by omega)
  have n2 := numD_num (n := x.time.toNat) (txt (str (bytesN x.labs)) ++ (txt ⟨x.line.toArray⟩).take ((txt ⟨x.line.toArray⟩).length - 1)) (by omega)
  have t1 := txtD_txt (str (bytesN x.labs)) ((txt ⟨x.line.toArray⟩).take ((txt ⟨x.line.toArray⟩).length - 1)) (by rw [str_len]; omega)
  have t2 := txtD_cut ⟨x.line.toArray⟩ ((txt ⟨x.line.toArray⟩).length - 1) (by rw [Lib.size_mk]; omega) (by omega)
  have h : (entParts ((entB x).take ((entB x).length - 1))).2.2.2.2 ≠ 0 := by
    rw [e]
    unfold entParts
    rw [n1]
    simp only
    rw [n2]
    simp only
    rw [t1]
    simp only
    unfold doneD
    rw [if_pos t2]
    exact t2
  unfold entOk
  simp [h]
end Go.Proofs.YtffpphigmdehfaaDoor
