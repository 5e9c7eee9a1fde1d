/-
  Labels as bytes, there and back; labels that may be rise. No condition.
-/
import Derived.Test.YtgealkjkmeiibaaGreatDoorLRead
import Derived.Test.YtgealkjkmeiibaaGreatDoorSort
import Derived.Test.YtgealkjkmeiibaaGreatDoorWrite
namespace Go.Proofs.YtgealkjkmeiibaaGreatDoor
open Go.RowKit Go.Icz
theorem right_lens {l : List Lab} (hr : rightS l = true) : l.length ≤ 16 ∧ ∀ x ∈ l, x.1.length ≤ 128 ∧ x.2.length ≤ 128 := by
  obtain ⟨h16, hal⟩ := right_all hr
  exact ⟨by simp only [rightS, Bool.and_eq_true, decide_eq_true_eq] at hr; omega, fun x hx => by have := hal x hx; omega⟩
theorem bt_nats (s : B8) : bt (nats ⟨s.toArray⟩) = s := by
  unfold bt nats
  simp only [List.map_map]
  have h : (fun n : Nat => UInt8.ofNat n) ∘ UInt8.toNat = id := by funext x; exact UInt8.ofNat_toNat
  rw [h]
  simp
theorem numD_num {n : Nat} (r : List Nat) (h : n < 72057594037927936) : numD (num n ++ r) 0 = (n, r, 0) := by
  unfold numD
  rw [rdn_num r h]
  simp
theorem rdt_txt (s : ByteArray) (r : List Nat) (h : s.size ≤ 65536) : rdt (txt s ++ r) = (nats s, (txt s).length, 0) := by
  have e := rdn_num (m := s.size) (nats s ++ r) (by omega)
  have hn := nats_len s
  unfold rdt txt
  rw [List.append_assoc, e]
  simp only
  rw [if_neg (by simp), if_neg (by omega), if_neg (by simp only [List.length_append]; omega)]
  simp [← hn]
theorem txtD_txt (s : ByteArray) (r : List Nat) (h : s.size ≤ 65536) : txtD (txt s ++ r) 0 = (nats s, r, 0) := by
  unfold txtD
  rw [rdt_txt s r h]
  simp
theorem bytesL_lt : ∀ (l : List Lab), ∀ b ∈ bytesL l, b < 256
  | [], b, h => by simp [bytesL] at h
  | x :: t, b, h => by
    simp only [bytesL, List.mem_append] at h
    have ht : ∀ s : ByteArray, b ∈ txt s → b < 256 := fun s h => by
      unfold txt at h
      rcases List.mem_append.1 h with h | h
      · exact num_lt _ b h
      · exact nats_lt s b h
    rcases h with (h | h) | h
    · exact ht _ h
    · exact ht _ h
    · exact bytesL_lt t b h
theorem bytesN_lt (l : List Lab) : ∀ b ∈ bytesN l, b < 256 := fun b h => by
  unfold bytesN at h
  rcases List.mem_append.1 h with h | h
  · exact num_lt _ b h
  · exact bytesL_lt l b h
theorem labsD_bytes (l : List Lab) (r : List Nat) (hl : ∀ x ∈ l, x.1.length ≤ 128 ∧ x.2.length ≤ 128) : ∀ k, k ≤ l.length → labsD (bytesL l ++ r) 0 k = (l.take k, bytesL (l.drop k) ++ r, 0)
  | 0, _ => by simp [labsD]
  | k + 1, hk => by
    have ih := labsD_bytes l r hl k (by omega)
    have hlt : k < l.length := by omega
    have hx := hl l[k] (List.getElem_mem hlt)
    unfold labsD
    rw [ih, List.drop_eq_getElem_cons hlt]
    generalize hy : l[k] = x at *
    have t1 := txtD_txt ⟨x.1.toArray⟩ (txt ⟨x.2.toArray⟩ ++ (bytesL (l.drop (k + 1)) ++ r)) (by rw [Lib.size_mk]; omega)
    have t2 := txtD_txt ⟨x.2.toArray⟩ (bytesL (l.drop (k + 1)) ++ r) (by rw [Lib.size_mk]; omega)
    unfold stepD
    simp only [bytesL, List.append_assoc]
    rw [t1]
    simp only
    rw [t2]
    simp only [bt_nats]
    rw [List.take_succ_eq_append_getElem hlt, hy]
theorem readS_bytes {l : List Lab} (hr : rightS l = true) : readS (bytesN l) = (l, 0) := by
  obtain ⟨h16, hal⟩ := right_lens hr
  have h1 : numD (bytesN l) 0 = (l.length, bytesL l, 0) := numD_num _ (by omega)
  have h2 := labsD_bytes l [] hal l.length (Nat.le_refl _)
  rw [List.append_nil, List.take_length, List.drop_length] at h2
  unfold readS
  rw [h1]
  simp only
  rw [h2, if_neg (by omega)]
  simp [bytesL, doneD, hr]
theorem bytesL_len : ∀ (l : List Lab), (∀ x ∈ l, x.1.length ≤ 128 ∧ x.2.length ≤ 128) → (bytesL l).length ≤ 272 * l.length
  | [], _ => by simp [bytesL]
  | x :: t, h => by
    have h1 := bytesL_len t (fun y hy => h y (List.mem_cons_of_mem _ hy))
    have h2 := h x (List.mem_cons_self ..)
    have a1 := txt_len ⟨x.1.toArray⟩ (by rw [Lib.size_mk]; omega)
    have a2 := txt_len ⟨x.2.toArray⟩ (by rw [Lib.size_mk]; omega)
    simp only [bytesL, List.length_append, List.length_cons]
    omega
theorem bytesN_len {l : List Lab} (hr : rightS l = true) : (bytesN l).length ≤ 4400 := by
  obtain ⟨h16, hal⟩ := right_lens hr
  have h1 := bytesL_len l hal
  have h2 := num_len8 (n := l.length) (by omega)
  unfold bytesN
  rw [List.length_append]
  omega
theorem chain_lt : ∀ (l : List Lab) (p : Option B8), chain p l = true → (∀ q, p = some q → ∀ x ∈ l, Lib.compareBytes q x.1 < 0) ∧ l.Pairwise (fun x y => Lib.compareBytes x.1 y.1 < 0)
  | [], p, _ => ⟨fun q _ x hx => (by simp at hx), List.Pairwise.nil⟩
  | y :: t, p, h => by
    simp only [chain, Bool.and_eq_true] at h
    obtain ⟨h1, h2⟩ := chain_lt t (some y.1) h.2
    refine ⟨fun q hq x hx => ?_, List.pairwise_cons.2 ⟨fun x hx => h1 y.1 rfl x hx, h2⟩⟩
    have h3 : Lib.compareBytes q y.1 < 0 := by
      have h9 := h.1.2
      rw [hq] at h9
      simpa [less_iff] using h9
    rcases List.mem_cons.1 hx with rfl | hx
    · exact h3
    · have h4 := h1 y.1 rfl x hx
      have h5 := bytesCmp.le q y.1 x.1 (by omega) (by omega)
      have h6 : Lib.compareBytes q x.1 ≠ 0 := fun e => by
        have e2 := (bytesCmp.eq _ _).1 e
        have h7 := bytesCmp.neg q y.1
        rw [← e2] at h4
        omega
      omega
end Go.Proofs.YtgealkjkmeiibaaGreatDoor
