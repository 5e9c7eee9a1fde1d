/-
  Lists of entries in memory; which may be a batch: what record.rightBatch answers. Conditions: those that each theorem names.
  What record.PutBatch answers. Conditions: the entries can be read; sizes as each theorem names.
  What was written of labels and entries is found again; with one byte more or less it is none. Conditions: those that each theorem names.
-/
import Derived.Test.YtelabmcghahclaaDoorEntKnow
import Derived.Test.YtelabmcghahclaaDoorEntGet1
section
namespace Go.Icz
open Go.RowKit
/-- The slice v reads as the entries l. -/
def RdE (w : World) (v : Value) (l : List Ent) : Prop :=
  ∃ A c, v = .slice A l.length c ∧ l.length ≤ c ∧ (0 < l.length → ∃ b off, A = some ⟨b, off, none⟩ ∧ b < w.heap.size ∧
    ∀ j (hj : j < l.length), ∃ A' c', w.cell? ⟨b, off + j * 4, none⟩ = some (.int .i64 (l[j]).seq) ∧ w.cell? ⟨b, off + j * 4 + 1, none⟩ = some (.int .i64 (l[j]).time) ∧ w.cell? ⟨b, off + j * 4 + 2, none⟩ = some (.slice A' (l[j]).labs.length c') ∧ w.cell? ⟨b, off + j * 4 + 3, none⟩ = some (.string ⟨(l[j]).line.toArray⟩) ∧ RdL w (.slice A' (l[j]).labs.length c') (l[j]).labs)
theorem RdE.below {w w' : World} {v : Value} {l : List Ent} (h : RdE w v l) (hb : Below w.heap.size w w') : RdE w' v l := by
  obtain ⟨A, c, hv, hc, hr⟩ := h
  refine ⟨A, c, hv, hc, fun h0 => ?_⟩
  obtain ⟨b, off, hA, hlt, hcell⟩ := hr h0
  refine ⟨b, off, hA, Nat.lt_of_lt_of_le hlt hb.size, fun j hj => ?_⟩
  obtain ⟨A', c', h0, h1, h2, h3, h4⟩ := hcell j hj
  exact ⟨A', c', (hb.cell (p := ⟨b, off + j * 4, none⟩) hlt).trans h0, (hb.cell (p := ⟨b, off + j * 4 + 1, none⟩) hlt).trans h1, (hb.cell (p := ⟨b, off + j * 4 + 2, none⟩) hlt).trans h2, (hb.cell (p := ⟨b, off + j * 4 + 3, none⟩) hlt).trans h3, h4.below hb⟩
def batC (p : Option Int) : List Ent → Bool
  | [] => true
  | x :: t => entR x && (match p with | none => true | some s => decide (x.seq = s + 1)) && batC (some x.seq) t
def prevS (l : List Ent) (k : Nat) : Option Int := if k = 0 then none else some (l.getD (k - 1) ⟨0, 0, [], []⟩).seq
/-- May the entries be a batch? -/
def batR (l : List Ent) : Bool := decide (1 ≤ l.length ∧ l.length ≤ 16) && batC none l
end Go.Icz
namespace Go.Proofs.YtelabmcghahclaaDoor
open Go.RowKit Go.Icz
end Go.Proofs.YtelabmcghahclaaDoor
end
section
namespace Go.Proofs.YtelabmcghahclaaDoor
open Go.RowKit Go.Icz
def batL : List Ent → List Nat
  | [] => []
  | x :: t => txt (str (entB x)) ++ batL t
/-- The bytes of a batch. -/
def batB (l : List Ent) : List Nat := num l.length ++ batL l
theorem batC_all : ∀ (l : List Ent) (p : Option Int), batC p l = true → ∀ x ∈ l, entR x = true
  | [], _, _, x, hx => by simp at hx
  | y :: t, p, h, x, hx => by
    simp only [batC, Bool.and_eq_true] at h
    rcases List.mem_cons.1 hx with rfl | hx
    · exact h.1.1
    · exact batC_all t _ h.2 x hx
theorem batR_all {l : List Ent} (h : batR l = true) : (1 ≤ l.length ∧ l.length ≤ 16) ∧ ∀ x ∈ l, entR x = true := by
  simp only [batR, Bool.and_eq_true, decide_eq_true_eq] at h
  exact ⟨h.1, batC_all l none h.2⟩
theorem entB_len {x : Ent} (h : entR x = true) : (entB x).length ≤ 5456 := by
  unfold entR at h
  simp only [Bool.and_eq_true, decide_eq_true_eq] at h
  obtain ⟨⟨⟨⟨s1, s2⟩, u1, u2⟩, l1⟩, hrr⟩ := h
  have hn1 := num_len8 (n := x.seq.toNat) (by omega)
  have hn2 := num_len8 (n := x.time.toNat) (by omega)
  have hbl := bytesN_len hrr
  have ht1 := txt_len2 (str (bytesN x.labs)) (by rw [str_len]; omega)
  rw [str_len] at ht1
  have hls : (⟨x.line.toArray⟩ : ByteArray).size = x.line.length := Lib.size_mk _
  have ht2 := txt_len2 ⟨x.line.toArray⟩ (by omega)
  rw [hls] at ht2
  unfold entB
  simp only [List.length_append]
  omega
/-- The bytes of a batch that may be; an error else. -/
def BatOut (l : List Ent) (w : World) (e : Ending) (w' : World) : Prop :=
  ∃ v, e = .returned (.tuple #[v, .int .i64 (if batR l = true then 0 else 1)]) ∧ Rd w' v (if batR l = true then batB l else []) ∧ Below w.heap.size w w'
end Go.Proofs.YtelabmcghahclaaDoor
end
section
namespace Go.Proofs.YtelabmcghahclaaDoor
open Go.RowKit Go.Icz
theorem bt_nats (s : B8) : bt (nats ⟨s.toArray⟩) = s := by
  unfold bt nats
  simp only [List.map_map]
  have h : (fun n : Nat => UInt8.ofNat n) ∘ UInt8.toNat = id := by funext x; exact UInt8.ofNat_toNat
  rw [h]
  simp
theorem numD_num {n : Nat} (r : List Nat) (h : n < 72057594037927936) : numD (num n ++ r) 0 = (n, r, 0) := by
  unfold numD
  rw [rdn_num r h]
  simp
theorem rdt_txt (s : ByteArray) (r : List Nat) (h : s.size ≤ 65536) : rdt (txt s ++ r) = (nats s, (txt s).length, 0) := by
  have e := rdn_num (m := s.size) (nats s ++ r) (by omega)
  have hn := nats_len s
  unfold rdt txt
  rw [List.append_assoc, e]
  simp only
  rw [if_neg (by simp), if_neg (by omega), if_neg (by simp only [List.length_append]; omega)]
  simp [← hn]
theorem rdt_cut (s : ByteArray) (k : Nat) (h : s.size ≤ 65536) (hk : k < (txt s).length) : (rdt ((txt s).take k)).2.2 ≠ 0 := by
  have hn := nats_len s
  unfold txt at hk ⊢
  rw [List.length_append] at hk
  by_cases h1 : k < (num s.size).length
  · rw [List.take_append_of_le_length (by omega)]
    unfold rdt
    rw [rdn_cut (by omega) h1]
    simp
  · rw [List.take_append, List.take_of_length_le (by omega)]
    have e := rdn_num (m := s.size) ((nats s).take (k - (num s.size).length)) (by omega)
    unfold rdt
    rw [e]
    simp only
    rw [if_neg (by simp), if_neg (by omega), if_pos (by simp only [List.length_append, List.length_take]; omega)]
    simp
theorem txtD_txt (s : ByteArray) (r : List Nat) (h : s.size ≤ 65536) : txtD (txt s ++ r) 0 = (nats s, r, 0) := by
  unfold txtD
  rw [rdt_txt s r h]
  simp
theorem txtD_cut (s : ByteArray) (k : Nat) (h : s.size ≤ 65536) (hk : k < (txt s).length) : (txtD ((txt s).take k) 0).2.2 ≠ 0 := by
  have h1 := rdt_cut s k h hk
  unfold txtD
  rw [if_neg (by simp), if_pos h1]
  exact h1
theorem bytesL_lt : ∀ (l : List Lab), ∀ b ∈ bytesL l, b < 256
  | [], b, h => by simp [bytesL] at h
  | x :: t, b, h => by
    simp only [bytesL, List.mem_append] at h
    have ht : ∀ s : ByteArray, b ∈ txt s → b < 256 := fun s h => by
      unfold txt at h
      rcases List.mem_append.1 h with h | h
      · exact num_lt _ b h
      · exact nats_lt s b h
    rcases h with (h | h) | h
    · exact ht _ h
    · exact ht _ h
    · exact bytesL_lt t b h
theorem bytesN_lt (l : List Lab) : ∀ b ∈ bytesN l, b < 256 := fun b h => by
  unfold bytesN at h
  rcases List.mem_append.1 h with h | h
  · exact num_lt _ b h
  · exact bytesL_lt l b h
theorem labsD_bytes (l : List Lab) (r : List Nat) (hl : ∀ x ∈ l, x.1.length ≤ 128 ∧ x.2.length ≤ 128) : ∀ k, k ≤ l.length → labsD (bytesL l ++ r) 0 k = (l.take k, bytesL (l.drop k) ++ r, 0)
  | 0, _ => by simp [labsD]
  | k + 1, hk => by
    have ih := labsD_bytes l r hl k (by omega)
    have hlt : k < l.length := by omega
    have hx := hl l[k] (List.getElem_mem hlt)
    unfold labsD
    rw [ih, List.drop_eq_getElem_cons hlt]
    generalize hy : l[k] = x at *
    have t1 := txtD_txt ⟨x.1.toArray⟩ (txt ⟨x.2.toArray⟩ ++ (bytesL (l.drop (k + 1)) ++ r)) (by rw [Lib.size_mk]; omega)
    have t2 := txtD_txt ⟨x.2.toArray⟩ (bytesL (l.drop (k + 1)) ++ r) (by rw [Lib.size_mk]; omega)
    unfold stepD
    simp only [bytesL, List.append_assoc]
    rw [t1]
    simp only
    rw [t2]
    simp only [bt_nats]
    rw [List.take_succ_eq_append_getElem hlt, hy]
theorem readS_bytes {l : List Lab} (hr : rightS l = true) : readS (bytesN l) = (l, 0) := by
  obtain ⟨h16, hal⟩ := right_lens hr
  have h1 : numD (bytesN l) 0 = (l.length, bytesL l, 0) := numD_num _ (by omega)
  have h2 := labsD_bytes l [] hal l.length (Nat.le_refl _)
  rw [List.append_nil, List.take_length, List.drop_length] at h2
  unfold readS
  rw [h1]
  simp only
  rw [h2, if_neg (by omega)]
  simp [bytesL, doneD, hr]
theorem entParts_bytes {x : Ent} (hx : entR x = true) (r : List Nat) : entParts (entB x ++ r) = (x.seq.toNat, x.time.toNat, bytesN x.labs, nats ⟨x.line.toArray⟩, doneD r 0) := by
  unfold entR at hx
  simp only [Bool.and_eq_true, decide_eq_true_eq] at hx
  obtain ⟨⟨⟨⟨s1, s2⟩, u1, u2⟩, l1⟩, hrr⟩ := hx
  have hbl := bytesN_len hrr
  have n1 := numD_num (n := x.seq.toNat) (num x.time.toNat ++ (txt (str (bytesN x.labs)) ++ (txt ⟨x.line.toArray⟩ ++ r))) (by omega)
  have n2 := numD_num (n := x.time.toNat) (txt (str (bytesN x.labs)) ++ (txt ⟨x.line.toArray⟩ ++ r)) (by omega)
  have t1 := txtD_txt (str (bytesN x.labs)) (txt ⟨x.line.toArray⟩ ++ r) (by rw [str_len]; omega)
  have t2 := txtD_txt ⟨x.line.toArray⟩ r (by rw [Lib.size_mk]; omega)
  unfold entParts entB
  simp only [List.append_assoc]
  rw [n1]
  simp only
  rw [n2]
  simp only
  rw [t1]
  simp only
  rw [t2, nats_str _ (bytesN_lt _)]
theorem entOf_bytes {x : Ent} (hx : entR x = true) (r : List Nat) : entOf (entB x ++ r) = x := by
  have h := entParts_bytes hx r
  unfold entR at hx
  simp only [Bool.and_eq_true, decide_eq_true_eq] at hx
  obtain ⟨⟨⟨⟨s1, s2⟩, u1, u2⟩, l1⟩, hrr⟩ := hx
  unfold entOf
  rw [h]
  simp only
  rw [readS_bytes hrr, bt_nats, Int.toNat_of_nonneg (by omega), Int.toNat_of_nonneg (by omega)]
theorem entOk_bytes {x : Ent} (hx : entR x = true) : entOk (entB x) = true ∧ entOf (entB x) = x := by
  have h := entParts_bytes hx []
  have h2 := entOf_bytes hx []
  rw [List.append_nil] at h h2
  refine ⟨?_, h2⟩
  have hrr : rightS x.labs = true := by
    unfold entR at hx
    simp only [Bool.and_eq_true, decide_eq_true_eq] at hx
    exact hx.2
  unfold entOk
  rw [h2, h]
  simp only
  rw [readS_bytes hrr, hx]
  rfl
theorem entOk_more {x : Ent} (hx : entR x = true) (m : Nat) : entOk (entB x ++ [m]) = false := by
  have h := entParts_bytes hx [m]
  unfold entOk
  rw [h]
  simp [doneD]
theorem txt_pos (s : ByteArray) : 0 < (txt s).length := by
  have := num_pos s.size
  unfold txt
  rw [List.length_append]
  omega
theorem entB_pos (x : Ent) : 0 < (entB x).length := by
  have := txt_pos ⟨x.line.toArray⟩
  unfold entB
  rw [List.length_append]
  omega
theorem entOk_less {x : Ent} (hx : entR x = true) : entOk ((entB x).take ((entB x).length - 1)) = false := by
  have hp := txt_pos ⟨x.line.toArray⟩
  unfold entR at hx
  simp only [Bool.and_eq_true, decide_eq_true_eq] at hx
  obtain ⟨⟨⟨⟨s1, s2⟩, u1, u2⟩, l1⟩, hrr⟩ := hx
  have hbl := bytesN_len hrr
  have e : (entB x).take ((entB x).length - 1) = num x.seq.toNat ++ (num x.time.toNat ++ (txt (str (bytesN x.labs)) ++ (txt ⟨x.line.toArray⟩).take ((txt ⟨x.line.toArray⟩).length - 1))) := by
    unfold entB
    rw [List.take_append, List.take_of_length_le (by simp only [List.length_append]; omega), List.append_assoc, List.append_assoc]
    congr 4
    simp only [List.length_append]
    omega
  have n1 := numD_num (n := x.seq.toNat) (num x.time.toNat ++ (txt (str (bytesN x.labs)) ++ (txt ⟨x.line.toArray⟩).take ((txt ⟨x.line.toArray⟩).length - 1))) (by omega)
  have n2 := numD_num (n := x.time.toNat) (txt (str (bytesN x.labs)) ++ (txt ⟨x.line.toArray⟩).take ((txt ⟨x.line.toArray⟩).length - 1)) (by omega)
  have t1 := txtD_txt (str (bytesN x.labs)) ((txt ⟨x.line.toArray⟩).take ((txt ⟨x.line.toArray⟩).length - 1)) (by rw [str_len]; omega)
  have t2 := txtD_cut ⟨x.line.toArray⟩ ((txt ⟨x.line.toArray⟩).length - 1) (by rw [Lib.size_mk]; omega) (by omega)
  have h : (entParts ((entB x).take ((entB x).length - 1))).2.2.2.2 ≠ 0 := by
    rw [e]
    unfold entParts
    rw [n1]
    simp only
    rw [n2]
    simp only
    rw [t1]
    simp only
    unfold doneD
    rw [if_pos t2]
    exact t2
  unfold entOk
  simp [h]
end Go.Proofs.YtelabmcghahclaaDoor
end
