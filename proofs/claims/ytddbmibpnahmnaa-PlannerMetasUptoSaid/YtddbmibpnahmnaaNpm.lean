/-
  A Meta as bytes, and bytes as a Meta: as mathematics. Conditions: those that each theorem names.
-/
import Derived.Test.YtddbmibpnahmnaaNrt
import Derived.Test.YtddbmibpnahmnaaRefDec
namespace Go.Icz
open Go.RowKit
/-- The numbers that stand for a Meta. -/
def partM (m : MV) : List Int := [m.id, m.least, m.most - m.least, m.first, m.last - m.first, m.rows, m.bytes, m.level]
def numsB (l : List Int) : List Nat := l.flatMap fun n => num n.toNat
def metaB (m : MV) : List Nat := numsB (partM m)
/-- So many numbers off bytes. -/
def takeN : Nat → List Nat → Nat → List Nat × List Nat × Nat
  | 0, l, er => ([], l, er)
  | k + 1, l, er => ((numD l er).1 :: (takeN k (numD l er).2.1 (numD l er).2.2).1, (takeN k (numD l er).2.1 (numD l er).2.2).2)
def ofN : List Nat → MV
  | [a, b, c, d, e, f, g, h] => ⟨a, b, (b : Int) + c, d, (d : Int) + e, f, g, h⟩
  | _ => zeroM
def getPM (l : List Nat) : MV × Int := if doneD (takeN 8 l 0).2.1 (takeN 8 l 0).2.2 = 0 ∧ rightM (ofN (takeN 8 l 0).1) = true then (ofN (takeN 8 l 0).1, 0) else (zeroM, 21)
theorem numD_lt (l : List Nat) (er : Nat) : (numD l er).1 < 72057594037927936 := by
  unfold numD
  split
  · exact (by omega : 0 < 72057594037927936)
  · split
    · exact (by omega : 0 < 72057594037927936)
    · exact rdn_lt l
theorem numD_le (l : List Nat) (er : Nat) : (∀ c, c ∈ (numD l er).2.1 → c ∈ l) ∧ (numD l er).2.1.length ≤ l.length := by
  unfold numD
  split
  · exact ⟨fun c h => h, Nat.le_refl _⟩
  · split
    · exact ⟨fun c h => h, Nat.le_refl _⟩
    · exact ⟨fun c h => List.mem_of_mem_drop h, by rw [List.length_drop]; omega⟩
theorem numD_num {n : Nat} (rest : List Nat) (h : n < 72057594037927936) : numD (num n ++ rest) 0 = (n, rest, 0) := by
  have e := rdn_num rest h
  unfold numD
  rw [if_neg (by omega), e]
  simp only [ne_eq, not_true_eq_false, if_false]
  rw [List.drop_left]
theorem takeN_num : ∀ (ns : List Nat) (rest : List Nat), (∀ n ∈ ns, n < 72057594037927936) → takeN ns.length (ns.flatMap num ++ rest) 0 = (ns, rest, 0)
  | [], rest, _ => rfl
  | n :: ns, rest, h => by
    have ih := takeN_num ns rest (fun x hx => h x (List.mem_cons_of_mem _ hx))
    have e : (n :: ns).flatMap num ++ rest = num n ++ (ns.flatMap num ++ rest) := by simp [List.flatMap_cons]
    rw [e, List.length_cons]
    unfold takeN
    rw [numD_num _ (h n (List.mem_cons_self ..))]
    simp only
    rw [ih]
theorem getPM_put {m : MV} (h : rightM m = true) : getPM (metaB m) = (m, 0) := by
  have r := rt_iff.1 h
  obtain ⟨i1, i2, l1, l2, o1, o2, f1, f2, a1, a2, q1, q2, b1, b2, v1, v2⟩ := r
  have e : metaB m = ([m.id.toNat, m.least.toNat, (m.most - m.least).toNat, m.first.toNat, (m.last - m.first).toNat, m.rows.toNat, m.bytes.toNat, m.level.toNat] : List Nat).flatMap num ++ [] := by
    unfold metaB numsB partM
    simp [List.flatMap_cons]
  have t := takeN_num [m.id.toNat, m.least.toNat, (m.most - m.least).toNat, m.first.toNat, (m.last - m.first).toNat, m.rows.toNat, m.bytes.toNat, m.level.toNat] [] (by
    intro n hn
    simp only [List.mem_cons, List.not_mem_nil, or_false] at hn
    omega)
  rw [← e] at t
  have t8 : takeN 8 (metaB m) 0 = _ := t
  have ho : ofN [m.id.toNat, m.least.toNat, (m.most - m.least).toNat, m.first.toNat, (m.last - m.first).toNat, m.rows.toNat, m.bytes.toNat, m.level.toNat] = m := by
    obtain ⟨a, b, c, d, e, f, g, i⟩ := m
    simp only [ofN, MV.mk.injEq] at *
    omega
  unfold getPM
  rw [t8]
  simp only
  rw [ho, if_pos ⟨rfl, h⟩]
theorem num_bd {n : Nat} (h : n < 72057594037927936) : (num n).length ≤ 8 := num_len8 h
theorem numsB_len : ∀ (l : List Int), (∀ n ∈ l, n.toNat < 72057594037927936) → (numsB l).length ≤ 8 * l.length
  | [], _ => by simp [numsB]
  | n :: l, h => by
    have ih := numsB_len l (fun x hx => h x (List.mem_cons_of_mem _ hx))
    have h1 := num_bd (h n (List.mem_cons_self ..))
    have e : numsB (n :: l) = num n.toNat ++ numsB l := by simp [numsB, List.flatMap_cons]
    rw [e, List.length_append, List.length_cons]
    omega
theorem part_ok {m : MV} (h : rightM m = true) : ∀ n ∈ partM m, 0 ≤ n ∧ n < 1099511627776 := by
  obtain ⟨i1, i2, l1, l2, o1, o2, f1, f2, a1, a2, q1, q2, b1, b2, v1, v2⟩ := rt_iff.1 h
  intro n hn
  unfold partM at hn
  simp only [List.mem_cons, List.not_mem_nil, or_false] at hn
  omega
theorem numsB_take {l : List Int} {i : Nat} (h : i < l.length) : numsB (l.take (i + 1)) = numsB (l.take i) ++ num (l[i]).toNat := by
  rw [List.take_succ_eq_append_getElem h]
  unfold numsB
  rw [List.flatMap_append, List.flatMap_singleton]
theorem num_bytes (n : Nat) : ∀ c ∈ num n, c < 256 := fun c hc => num_lt n c hc
theorem numsB_bytes (l : List Int) : ∀ c ∈ numsB l, c < 256 := fun c hc => by
  obtain ⟨n, _, hn⟩ := List.mem_flatMap.1 hc
  exact num_lt _ _ hn
end Go.Icz
