/-
  Sets of keys in memory. Conditions: those that each theorem names.
-/
import Derived.Test.YtcohpgahffbnlaaOm3
import Derived.Maps.OwnIn
import Derived.Maps.RangeWalk
import Derived.Sort.KeysCollected
namespace Go.Icz
open Go.RowKit Go.Maps
theorem kl_same (a b : ByteArray) : (kl a).sameKey (kl b) = decide (a = b) := by
  by_cases h : a = b
  · subst h
    rw [WideAt.sameKey_self (kl_key a)]
    simp
  · rw [Maps.sameKey_ne (kl_ne h)]
    simp [h]
/-- Two lists with the same keys, each once, tell the same keys. -/
theorem rises_same {β γ : Type} {A : AL β} {B : AL γ} (hA : (akeys A).Nodup) (hB : (akeys B).Nodup) (h : ∀ k, k ∈ akeys A ↔ k ∈ akeys B) : rises A = rises B := by
  have hp : (akeys A).Perm (akeys B) := (List.perm_ext_iff_of_nodup hA hB).2 h
  have e : ∀ {δ : Type} (N : AL δ), (N.map fun e => e.1.data.toList) = (akeys N).map fun k => k.data.toList := fun N => by unfold akeys; rw [List.map_map]; rfl
  unfold rises
  rw [e, e]
  exact mergeSort_of_perm (hp.map _)
theorem mem_back {S : AL Unit} {c : Chg} {k : ByteArray} : k ∈ akeys (back1 S c) ↔ if k = c.k then c.c = false else k ∈ akeys S := by
  unfold back1
  cases hc : c.c
  · simp only [Bool.false_eq_true, if_false]
    rw [mem_keys_put]
    by_cases e : k = c.k <;> simp [e]
  · simp only [if_true]
    rw [mem_keys_del]
    by_cases e : k = c.k <;> simp [e]
theorem backs_same {A B : AL Unit} (h : ∀ k, k ∈ akeys A ↔ k ∈ akeys B) (l : List Chg) : ∀ k, k ∈ akeys (backs A l) ↔ k ∈ akeys (backs B l) := by
  induction l generalizing A B with
  | nil => exact h
  | cons c r ih =>
    refine ih (A := back1 A c) (B := back1 B c) fun k => ?_
    rw [mem_back, mem_back]
    by_cases e : k = c.k <;> simp [e, h k]
theorem nodup_pre {S : AL Unit} (h : (akeys S).Nodup) (p : ByteArray) : (akeys (preS p S)).Nodup := h.sublist (List.Sublist.map _ List.filter_sublist)
theorem mem_pre {S : AL Unit} {p k : ByteArray} : k ∈ akeys (preS p S) ↔ hasPre p k = true ∧ k ∈ akeys S := by
  unfold akeys preS
  constructor
  · intro h
    obtain ⟨e, he, rfl⟩ := List.mem_map.1 h
    have := List.mem_filter.1 he
    exact ⟨this.2, List.mem_map.2 ⟨e, this.1, rfl⟩⟩
  · rintro ⟨h1, h2⟩
    obtain ⟨e, he, rfl⟩ := List.mem_map.1 h2
    exact List.mem_map.2 ⟨e, List.mem_filter.2 ⟨he, h1⟩, rfl⟩
theorem backs_snoc (S : AL Unit) (l : List Chg) (c : Chg) : backs S (l ++ [c]) = back1 (backs S l) c := by
  unfold backs
  rw [List.foldl_append]
  rfl
theorem back_small {S : AL Unit} {l : List Chg} (hs : ∀ k ∈ akeys S, k.size ≤ 64) (hl : ∀ c ∈ l, c.k.size ≤ 64) : ∀ k ∈ akeys (backs S l), k.size ≤ 64 := by
  induction l generalizing S with
  | nil => exact hs
  | cons c r ih =>
    refine ih (S := back1 S c) (fun k hk => ?_) (fun x hx => hl x (by simp [hx]))
    rw [mem_back] at hk
    by_cases e : k = c.k
    · rw [e]; exact hl c (by simp)
    · rw [if_neg e] at hk; exact hs k hk
end Go.Icz
namespace Go.Proofs.Ytcohpgahffbnlaa
open Go.RowKit Go.Icz Go.Maps Go.ChangeMaps Go.MapKept Go.Shelf
attribute [local go_sem] Oper.semAt_some
set_option maxRecDepth 100000
set_option maxHeartbeats 4000000
/-- A set of keys. -/
def Us (w : World) (b : Nat) (U : AL Unit) : Prop := ∃ D : DataW Unit, w.ownsMap Try.prog 9 unitElem b U.length D ∧ AgrK D U
theorem Us.touch {S : Nat → Prop} {w w' : World} {b : Nat} {U : AL Unit} (h : Us w b U) (t : Tch S w w') (hS : ¬ S b) : Us w' b U := by
  obtain ⟨D, h1, h2⟩ := h
  exact ⟨D, ownsMap_touch h1 t hS, h2⟩
theorem Us.row {w : World} {b : Nat} {U : AL Unit} (h : Us w b U) : ∃ es c, w.heap[b]? = some (.map es c) := by
  obtain ⟨D, ⟨es, clock, h1, _⟩, _⟩ := h
  exact ⟨es, clock, h1⟩
theorem Us.lt {w : World} {b : Nat} {U : AL Unit} (h : Us w b U) : b < w.heap.size := by
  obtain ⟨D, h1, _⟩ := h
  exact h1.lt
theorem Us.put {w : World} {b : Nat} {U : AL Unit} (h : Us w b U) (hn : (akeys U).Nodup) (hl : U.length < maxLen) (k : ByteArray) (hk : k.size ≤ maxLen) :
    ∃ w', (Instr.mapUpdate 99 (.map (some b)) (.string k) (.agg #[])).run Try.prog w = .ok () w' ∧ Us w' b (aput U k ()) ∧ Tch (· = b) w w' := by
  obtain ⟨D, hown, ha⟩ := h
  obtain ⟨w', hrun, ho, ht⟩ := hown.store (string_keyed Try.underlying9) Try.underlying99 hl (key := .string k) (val := .agg #[]) (keyS hk) (d := .agg []) (ps := []) unitElem_mk
  have hA := ha.put (hown.tidy (string_keyed Try.underlying9)) hn k () (.agg [])
  exact ⟨w', hrun, ⟨_, ownsMap_le ho (by rw [hA.size]; exact Nat.le_refl _), hA⟩, Tch.turned ht⟩
theorem Us.del {w : World} {b : Nat} {U : AL Unit} (h : Us w b U) (hn : (akeys U).Nodup) (k : ByteArray) (hk : k.size ≤ maxLen) (ty : TypeId) :
    ∃ w', (Builtin.delete_ #[99, 9] ty #[.map (some b), .string k]).run Try.prog w = .ok (.tuple #[]) w' ∧ Us w' b (adel k U) ∧ Tch (· = b) w w' := by
  obtain ⟨D, hown, ha⟩ := h
  obtain ⟨w', hrun, ho, ht⟩ := hown.drop (string_keyed Try.underlying9) Try.underlying99 (keyS hk) ty
  have hA := ha.del (hown.tidy (string_keyed Try.underlying9)) hn k
  exact ⟨w', hrun, ⟨_, ownsMap_le ho (by rw [hA.size]; exact Nat.le_refl _), hA⟩, Tch.turned ht⟩
theorem Us.made (w : World) : Us (w.alloc (.map #[] 0)) w.heap.size [] := ⟨.map [], World.ownsMap_made .., AgrK.nil⟩
theorem pre_eq (k p : ByteArray) (h : p.size ≤ k.size) : ((k.extract 0 p.size).toList == p.toList) = hasPre p k := by
  rw [ByteArray.toList_eq, ByteArray.toList_eq]
  have e1 : (k.extract 0 p.size).data.toList = k.data.toList.take p.data.toList.length := by
    have e2 : p.data.toList.length = p.size := by rw [Array.length_toList]; rfl
    rw [ByteArray.data_extract, Array.toList_extract, List.extract_eq_take_drop, List.drop_zero, Nat.sub_zero, e2]
  unfold hasPre
  rw [e1, Bool.eq_iff_iff, beq_iff_eq, List.isPrefixOf_iff_prefix, List.prefix_iff_eq_take]
  exact eq_comm
theorem pre_no (k p : ByteArray) (h : ¬ p.size ≤ k.size) : hasPre p k = false := by
  unfold hasPre
  rw [← Bool.not_eq_true, List.isPrefixOf_iff_prefix]
  intro hp
  have := hp.length_le
  have e1 : p.data.toList.length = p.size := by rw [Array.length_toList]; rfl
  have e2 : k.data.toList.length = k.size := by rw [Array.length_toList]; rfl
  omega
/-- Has that key that beginning? -/
theorem hasPreL_is (k p : ByteArray) (w : World) : Calls Try.prog 70 #[.string k, .string p] w fun e w' => e = .returned (.bool (hasPre p k)) ∧ w' = w := by
  by_cases h : p.size ≤ k.size
  · have d : decide ((p.size : Int) ≤ (k.size : Int)) = true := decide_eq_true (by omega)
    have HE := hid (pre_eq k p h)
    go_enter Try.func70, Try.ntmps70
    go_wp2
    go_ret
    exact ⟨by rw [← HE.out]; rfl, rfl⟩
  · have d : decide ((p.size : Int) ≤ (k.size : Int)) = false := decide_eq_false (by omega)
    have HE := hid (pre_no k p h)
    go_enter Try.func70, Try.ntmps70
    go_wp2
    go_ret
    exact ⟨by rw [HE.out]; rfl, rfl⟩
theorem hasPre_is (k p : ByteArray) (w : World) : Calls Try.prog 61 #[.string k, .string p] w fun e w' => e = .returned (.bool (hasPre p k)) ∧ w' = w := by
  have hL := hasPreL_is k p w
  generalize hasPre p k = y at *
  go_enter Try.func61, Try.ntmps61
  go_wp2_with (go_at_call 70; refine hL.mono ?_; rintro e w1 ⟨rfl, rfl⟩)
  go_ret
  exact ⟨rfl, rfl⟩
/-- The closure that says which keys go. -/
theorem listed1_is (k p : ByteArray) (bx : Nat) (w : World) (hb : w.cell? ⟨bx, 0, none⟩ = some (.string p)) (hbl : bx < w.heap.size) :
    Calls Try.prog 60 #[.string k, .agg #[], .pointer (some ⟨bx, 0, none⟩)] w fun e w' => e = .returned (.bool (!hasPre p k)) ∧ Below w.heap.size w w' := by
  have hL := fun w1 => hasPre_is k p w1
  generalize hasPre p k = y at *
  go_enter Try.func60, Try.ntmps60
  go_wp2_with (go_at_call 61; refine (hL _).mono ?_; rintro e w1 ⟨rfl, rfl⟩)
  go_ret
  exact ⟨rfl, (Below.refl _ w).alloc (Nat.le_refl _) _⟩
end Go.Proofs.Ytcohpgahffbnlaa
