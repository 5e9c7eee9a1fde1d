/-
  How many different numbers rows have. No condition.
-/
import Derived.Test.YtbebhcdnnfgchaaMpm
import Derived.Test.YtbebhcdnnfgchaaMny
namespace Go.Icz
open Go.RowKit
section
variable {α : Type} (ky : α → Int × Int)
/-- The numbers of what comes once: each once, just those that were not met. -/
theorem outs_keys : ∀ (met : List Int) (S : List α), ((outs ky met S).map fun x => (ky x).2).Nodup ∧ ∀ k, k ∈ ((outs ky met S).map fun x => (ky x).2) ↔ ¬ k ∈ met ∧ ∃ x ∈ S, (ky x).2 = k
  | met, [] => ⟨List.Pairwise.nil, fun k => by simp [outs]⟩
  | met, x :: S => by
    by_cases hm : (ky x).2 ∈ met
    · rw [outs_in ky hm]
      obtain ⟨h1, h2⟩ := outs_keys met S
      refine ⟨h1, fun k => ?_⟩
      rw [h2 k]
      constructor
      · rintro ⟨a, y, hy, e⟩
        exact ⟨a, y, List.mem_cons_of_mem _ hy, e⟩
      · rintro ⟨a, y, hy, e⟩
        rcases List.mem_cons.1 hy with rfl | hy
        · exact absurd (e ▸ hm) a
        · exact ⟨a, y, hy, e⟩
    · rw [outs_out ky hm]
      obtain ⟨h1, h2⟩ := outs_keys ((ky x).2 :: met) S
      refine ⟨?_, fun k => ?_⟩
      · rw [List.map_cons, List.nodup_cons]
        refine ⟨fun hk => ?_, h1⟩
        exact ((h2 _).1 hk).1 (List.mem_cons_self ..)
      · rw [List.map_cons, List.mem_cons, h2 k]
        constructor
        · rintro (rfl | ⟨a, y, hy, e⟩)
          · exact ⟨hm, x, List.mem_cons_self .., rfl⟩
          · exact ⟨fun h => a (List.mem_cons_of_mem _ h), y, List.mem_cons_of_mem _ hy, e⟩
        · rintro ⟨a, y, hy, e⟩
          by_cases hk : k = (ky x).2
          · exact .inl hk
          · right
            refine ⟨fun h => ?_, ?_⟩
            · rcases List.mem_cons.1 h with h | h
              · exact hk h
              · exact a h
            · rcases List.mem_cons.1 hy with rfl | hy
              · exact absurd e.symm hk
              · exact ⟨y, hy, e⟩
theorem nodup_le : ∀ (l m : List Int), l.Nodup → (∀ k ∈ l, k ∈ m) → l.length ≤ m.length
  | [], m, _, _ => Nat.zero_le _
  | a :: l, m, hn, hs => by
    rw [List.nodup_cons] at hn
    have ha := hs a (List.mem_cons_self ..)
    have h1 := nodup_le l (m.erase a) hn.2 (fun k hk => (List.mem_erase_of_ne (fun e : k = a => hn.1 (by rw [← e]; exact hk))).2 (hs k (List.mem_cons_of_mem _ hk)))
    have h2 := List.length_erase_of_mem ha
    have h3 := List.length_pos_of_mem ha
    rw [List.length_cons]
    omega
/-- As many, if the numbers are the same. -/
theorem outs_len {S T : List α} (h : ∀ k, (∃ x ∈ S, (ky x).2 = k) ↔ ∃ x ∈ T, (ky x).2 = k) : (outs ky [] S).length = (outs ky [] T).length := by
  obtain ⟨a1, a2⟩ := outs_keys ky [] S
  obtain ⟨b1, b2⟩ := outs_keys ky [] T
  have e : ∀ U : List α, (outs ky [] U).length = ((outs ky [] U).map fun x => (ky x).2).length := fun U => by rw [List.length_map]
  rw [e S, e T]
  refine Nat.le_antisymm (nodup_le _ _ a1 (fun k hk => (b2 k).2 ?_)) (nodup_le _ _ b1 (fun k hk => (a2 k).2 ?_))
  · exact ⟨by simp, (h k).1 ((a2 k).1 hk).2⟩
  · exact ⟨by simp, (h k).2 ((b2 k).1 hk).2⟩
/-- The stream of rows has as many different numbers as the rows one behind the other. -/
theorem outs_flat (nb : Bool) (R : List (List α)) : (outs ky [] (strm ky nb R)).length = (outs ky [] R.flatten).length :=
  outs_len ky (fun k => by
    constructor
    · rintro ⟨x, hx, e⟩
      obtain ⟨r, hr, hxr⟩ := (strm_mem ky nb _ R rfl x).1 hx
      exact ⟨x, List.mem_flatten.2 ⟨r, hr, hxr⟩, e⟩
    · rintro ⟨x, hx, e⟩
      obtain ⟨r, hr, hxr⟩ := List.mem_flatten.1 hx
      exact ⟨x, (strm_mem ky nb _ R rfl x).2 ⟨r, hr, hxr⟩, e⟩)
/-- What is answered is an entry of the rows. -/
theorem outs_from (nb : Bool) (R : List (List α)) {x : α} (h : x ∈ outs ky [] (strm ky nb R)) : ∃ r ∈ R, x ∈ r :=
  (strm_mem ky nb _ R rfl x).1 ((outs_sub ky [] _).subset h)
end
end Go.Icz
namespace Go.Proofs.Ytbebhcdnnfgchaa
open Go.RowKit Go.Icz Go.Maps Go.ChangeMaps Go.MapKept
/-- A map of booleans in block m: what f says; at most n numbers were written. -/
def MBf (w : World) (m n : Nat) (f : Int → Bool) : Prop := ∃ D : DataW Unit, w.ownsMap Try.prog 3 (plainElem Try.prog 4) m n D ∧ ∀ k, D.atKey (.int .i64 k) (.lit (.bool false)) = .lit (.bool (f k))
theorem MBf.touch {S : Nat → Prop} {w w' : World} {m n : Nat} {f : Int → Bool} (h : MBf w m n f) (t : Tch S w w') (hS : ¬ S m) : MBf w' m n f := by
  obtain ⟨D, h1, h2⟩ := h
  exact ⟨D, ownsMap_touch h1 t hS, h2⟩
theorem MBf.lt {w : World} {m n : Nat} {f : Int → Bool} (h : MBf w m n f) : m < w.heap.size := by
  obtain ⟨D, h1, _⟩ := h
  exact h1.lt
theorem MBf.noRow {w : World} {m n : Nat} {f : Int → Bool} (h : MBf w m n f) : ∀ cur t z, w.heap[m]? ≠ some (.cells cur t z) := by
  obtain ⟨D, ⟨es, clock, h1, _⟩, _⟩ := h
  intro cur t z hc
  rw [h1] at hc
  cases hc
theorem MBf.look {w : World} {m n : Nat} {f : Int → Bool} (h : MBf w m n f) (k : Int) (hk : wfI k) : (Instr.lookup 38 (.map (some m)) (.int .i64 k) false).run Try.prog w = .ok (.bool (f k)) w := by
  obtain ⟨D, ho, ha⟩ := h
  obtain ⟨v, ps, hrun, hv⟩ := ho.lookup (int_keyed Try.underlying3) Try.underlying38 (Try.zeroValue4 w) (zd := .lit (.bool false)) (zp := []) (plainElem_bool Try.underlying4 false) (keyI hk)
  rw [ha k] at hv
  have hv2 : v = .bool (f k) := by
    unfold plainElem at hv
    rw [Try.underlying4] at hv
    cases v <;> simp at hv
    rw [hv.1]
  rw [hrun, hv2]
theorem MBf.store {w : World} {m n : Nat} {f : Int → Bool} (h : MBf w m n f) (k : Int) (b : Bool) (hk : wfI k) (hn : n < maxLen) : ∃ w', (Instr.mapUpdate 38 (.map (some m)) (.int .i64 k) (.bool b)).run Try.prog w = .ok () w' ∧ MBf w' m (n + 1) (fun j => if j = k then b else f j) ∧ Tch (· = m) w w' := by
  obtain ⟨D, ho, ha⟩ := h
  obtain ⟨w', hrun, ho', ht⟩ := ho.store (int_keyed Try.underlying3) Try.underlying38 hn (keyI hk) (val := .bool b) (d := .lit (.bool b)) (ps := []) (plainElem_bool Try.underlying4 b)
  refine ⟨w', hrun, ⟨_, ho', fun j => ?_⟩, Tch.turned ht⟩
  by_cases hj : j = k
  · subst hj
    rw [Maps.atKey_put_same ho.isMap (il_key _)]
    simp
  · rw [Maps.atKey_put_other (il_ne hj), ha]
    simp [hj]
theorem MBf.made (w : World) : MBf (w.alloc (.map #[] 0)) w.heap.size 0 (fun _ => false) := ⟨.map [], World.ownsMap_made .., fun k => by simp [DataW.atKey]⟩
end Go.Proofs.Ytbebhcdnnfgchaa
