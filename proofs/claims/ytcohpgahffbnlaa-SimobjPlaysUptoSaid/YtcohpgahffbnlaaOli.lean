/-
  SimobjLists: when each name came and went last, and what a list tells by that. Conditions: those that each theorem names.
-/
import Derived.Test.YtcohpgahffbnlaaOao
namespace Go.Icz
open Go.RowKit
open Go.Proofs.Ytcohpgahffbnlaa (kb)
def upd {α : Type} (f : ByteArray → α) (k : ByteArray) (x : α) : ByteArray → α := fun j => if j = k then x else f j
theorem upd_same {α : Type} (f : ByteArray → α) (k : ByteArray) (x : α) : upd f k x k = x := if_pos rfl
theorem upd_other {α : Type} (f : ByteArray → α) {k j : ByteArray} (x : α) (h : j ≠ k) : upd f k x j = f j := if_neg h
/-- The numbers beside the store: a time and one more, or nought. -/
structure CwI (M : SM) (came went : ByteArray → Nat) : Prop where
  c0 : ∀ k, k ∈ akeys M.L → came k ≠ 0
  ch : ∀ c ∈ M.ch, came c.k ≠ 0
  cm : ∀ k, k ∈ akeys M.L → ∀ c ∈ M.ch, c.k = k → c.t + 1 ≤ came k
  wt : ∀ k, k ∉ akeys M.L → ∀ c ∈ M.ch, c.k = k → c.t + 1 ≤ went k
  cb : ∀ k, came k ≤ M.now + 1
  wb : ∀ k, went k ≤ M.now + 1
theorem CwI.new (n : Nat) : CwI (newS n) (fun _ => 0) (fun _ => 0) := ⟨fun _ h => (by cases h), fun _ h => (by cases h), fun _ h => (by cases h), fun _ _ _ h => (by cases h), fun _ => Nat.zero_le _, fun _ => Nat.zero_le _⟩
theorem CwI.same {M M' : SM} {came went : ByteArray → Nat} (h : CwI M came went) (hL : ∀ j, j ∈ akeys M'.L ↔ j ∈ akeys M.L) (hc : M'.ch = M.ch) (hn : M.now ≤ M'.now) : CwI M' came went :=
  ⟨fun k hk => h.c0 k ((hL k).1 hk), fun c hx => h.ch c (by rw [← hc]; exact hx), fun k hk c hx => h.cm k ((hL k).1 hk) c (by rw [← hc]; exact hx), fun k hk c hx => h.wt k (fun e => hk ((hL k).2 e)) c (by rw [← hc]; exact hx), fun k => by have := h.cb k; omega, fun k => by have := h.wb k; omega⟩
theorem CwI.add {M M' : SM} {came went : ByteArray → Nat} (h : CwI M came went) (ct : ∀ x ∈ M.ch, x.t ≤ M.now) {k : ByteArray} (hL : ∀ j, j ∈ akeys M'.L ↔ j = k ∨ j ∈ akeys M.L) (hc : M'.ch = M.ch ++ [⟨M.now, k, true⟩]) (hn : M'.now = M.now) : CwI M' (upd came k (M.now + 1)) went := by
  have hx : ∀ c, c ∈ M'.ch → c ∈ M.ch ∨ c = ⟨M.now, k, true⟩ := fun c h => by rw [hc] at h; simpa using h
  refine ⟨fun j hj => ?_, fun c h1 => ?_, fun j hj c h1 h2 => ?_, fun j hj c h1 h2 => ?_, fun j => ?_, fun j => by have := h.wb j; omega⟩
  · by_cases e : j = k
    · rw [e, upd_same]; omega
    · rw [upd_other _ _ e]; exact h.c0 j (((hL j).1 hj).resolve_left e)
  · by_cases e : c.k = k
    · rw [e, upd_same]; omega
    · rw [upd_other _ _ e]
      rcases hx c h1 with h1 | rfl
      · exact h.ch c h1
      · exact absurd rfl e
  · by_cases e : j = k
    · rw [e, upd_same]
      rcases hx c h1 with h1 | rfl
      · have := ct c h1; omega
      · exact Nat.le_refl _
    · rw [upd_other _ _ e]
      rcases hx c h1 with h1 | rfl
      · exact h.cm j (((hL j).1 hj).resolve_left e) c h1 h2
      · exact absurd h2.symm e
  · have e : j ≠ k := fun e => hj ((hL j).2 (.inl e))
    rcases hx c h1 with h1 | rfl
    · exact h.wt j (fun x => hj ((hL j).2 (.inr x))) c h1 h2
    · exact absurd h2.symm e
  · rw [hn]
    by_cases e : j = k
    · rw [e, upd_same]; exact Nat.le_refl _
    · rw [upd_other _ _ e]; exact h.cb j
theorem CwI.rem {M M' : SM} {came went : ByteArray → Nat} (h : CwI M came went) (ct : ∀ x ∈ M.ch, x.t ≤ M.now) {k : ByteArray} (hk : k ∈ akeys M.L) (hL : ∀ j, j ∈ akeys M'.L ↔ j ≠ k ∧ j ∈ akeys M.L) (hc : M'.ch = M.ch ++ [⟨M.now, k, false⟩]) (hn : M'.now = M.now) : CwI M' came (upd went k (M.now + 1)) := by
  have hx : ∀ c, c ∈ M'.ch → c ∈ M.ch ∨ c = ⟨M.now, k, false⟩ := fun c h => by rw [hc] at h; simpa using h
  refine ⟨fun j hj => h.c0 j ((hL j).1 hj).2, fun c h1 => ?_, fun j hj c h1 h2 => ?_, fun j hj c h1 h2 => ?_, fun j => by have := h.cb j; omega, fun j => ?_⟩
  · rcases hx c h1 with h1 | rfl
    · exact h.ch c h1
    · exact h.c0 k hk
  · rcases hx c h1 with h1 | rfl
    · exact h.cm j ((hL j).1 hj).2 c h1 h2
    · exact absurd h2.symm ((hL j).1 hj).1
  · by_cases e : j = k
    · rw [e, upd_same]
      rcases hx c h1 with h1 | rfl
      · have := ct c h1; omega
      · exact Nat.le_refl _
    · rw [upd_other _ _ e]
      rcases hx c h1 with h1 | rfl
      · exact h.wt j (fun x => hj ((hL j).2 ⟨e, x⟩)) c h1 h2
      · exact absurd h2.symm e
  · rw [hn]
    by_cases e : j = k
    · rw [e, upd_same]; exact Nat.le_refl _
    · rw [upd_other _ _ e]; exact h.wb j
theorem backs_mem {S : AL Unit} {l : List Chg} {k : ByteArray} (h : k ∈ akeys (backs S l)) : k ∈ akeys S ∨ ∃ c ∈ l, c.k = k := by
  induction l generalizing S with
  | nil => exact .inl h
  | cons c r ih =>
    rcases ih (S := back1 S c) h with h | ⟨x, hx, e⟩
    · by_cases e : k = c.k
      · exact .inr ⟨c, by simp, e.symm⟩
      · rw [mem_back, if_neg e] at h
        exact .inl h
    · exact .inr ⟨x, by simp [hx], e⟩
theorem backs_out {S : AL Unit} {l : List Chg} {k : ByteArray} (hl : ∀ c ∈ l, c.k ≠ k) : k ∈ akeys (backs S l) ↔ k ∈ akeys S := by
  induction l generalizing S with
  | nil => exact Iff.rfl
  | cons c r ih =>
    have e : k ≠ c.k := fun e => hl c (by simp) e.symm
    have := ih (S := back1 S c) (fun x hx => hl x (by simp [hx]))
    rw [mem_back, if_neg e] at this
    exact this
theorem late_mem {M : SM} {c : Chg} (h : c ∈ lateS M) : c ∈ M.ch ∧ M.now < c.t + M.lag := by
  unfold lateS at h
  have h1 := List.all_eq_true.1 (List.all_takeWhile (p := lateB M) (l := M.ch.reverse)) c h
  refine ⟨List.mem_reverse.1 ((List.takeWhile_prefix _).sublist.subset h), ?_⟩
  unfold lateB at h1
  exact of_decide_eq_true h1
theorem pre_all (k : ByteArray) : hasPre ⟨#[]⟩ k = true := by simp [hasPre]
theorem CwI.list {M : SM} {came went : ByteArray → Nat} (h : CwI M came went) {k : ByteArray} (hk : k ∈ akeys (listed M ⟨#[]⟩)) : came k ≠ 0 ∧ (k ∉ akeys M.L → M.now + 1 < went k + M.lag) := by
  have hb := (mem_pre.1 hk).2
  have hb2 := backs_mem hb
  rw [keys_unit] at hb2
  refine ⟨?_, fun hn => ?_⟩
  · rcases hb2 with hb2 | ⟨c, hc, rfl⟩
    · exact h.c0 k hb2
    · exact h.ch c (late_mem hc).1
  · obtain ⟨c, hc, e⟩ := hb2.resolve_left hn
    have h1 := late_mem hc
    have h2 := h.wt k hn c h1.1 e
    omega
theorem CwI.keys {M : SM} {came went : ByteArray → Nat} (h : CwI M came went) {k : ByteArray} (hk : k ∈ akeys M.L) (hn : k ∉ akeys (listed M ⟨#[]⟩)) : M.now + 1 < came k + M.lag := by
  by_cases hc : ∃ c ∈ lateS M, c.k = k
  · obtain ⟨c, hc, e⟩ := hc
    have h1 := late_mem hc
    have h2 := h.cm k hk c h1.1 e
    omega
  · refine absurd (mem_pre.2 ⟨pre_all k, ?_⟩) hn
    refine (backs_out fun c hx e => hc ⟨c, hx, e⟩).2 ?_
    rw [keys_unit]
    exact hk
theorem beg_nil : begB ⟨#[]⟩ = true := by decide
theorem listM_nil (M : SM) : (listM M ⟨#[]⟩).2 = (errS M, askS M) := by
  unfold listM
  rw [beg_nil]
  simp only [Bool.true_eq_false, if_false]
  split <;> rename_i h
  · rfl
  · have : errS M = 0 := by simpa using h
    rw [this]
theorem listM_ok (M : SM) (h : errS M = 0) : (listM M ⟨#[]⟩).1 = rises (listed M ⟨#[]⟩) := by
  unfold listM
  rw [beg_nil]
  simp [h]
theorem mem_rises {β : Type} {N : AL β} {k : ByteArray} : k ∈ (rises N).map kb ↔ k ∈ akeys N := by
  have hk : ∀ e : ByteArray, kb e.data.toList = e := fun e => by unfold kb; exact ByteArray.ext (by simp)
  unfold rises akeys
  constructor
  · intro h
    obtain ⟨x, hx, rfl⟩ := List.mem_map.1 h
    rw [List.mem_mergeSort] at hx
    obtain ⟨e, he, rfl⟩ := List.mem_map.1 hx
    rw [hk]
    exact List.mem_map.2 ⟨e, he, rfl⟩
  · intro h
    obtain ⟨e, he, rfl⟩ := List.mem_map.1 h
    refine List.mem_map.2 ⟨e.1.data.toList, ?_, hk _⟩
    rw [List.mem_mergeSort]
    exact List.mem_map.2 ⟨e, he, rfl⟩
/-- Behind the lag a list tells just the keys. -/
theorem list_still {M : SM} (hn : (akeys M.L).Nodup) (h : ∀ c ∈ M.ch, c.t + M.lag ≤ M.now) : rises (listed M ⟨#[]⟩) = rises M.L := by
  have hl : lateS M = [] := by
    cases e : lateS M with
    | nil => rfl
    | cons c r =>
      have := late_mem (M := M) (c := c) (by rw [e]; simp)
      have := h c this.1
      omega
  refine rises_same (nodup_pre (by rw [hl]; show (akeys (unitOf M.L)).Nodup; rw [keys_unit]; exact hn) _) hn fun k => ?_
  unfold listed
  rw [mem_pre, hl]
  show _ ∧ k ∈ akeys (unitOf M.L) ↔ _
  rw [keys_unit]
  simp [pre_all]
/-- A Put, told by what is there ahead of it and behind it. -/
theorem put_now (M : SM) (k : ByteArray) (l : List Nat) : (putM M k l).2.now = M.now ∧ (putM M k l).2.lag = M.lag ∧ (putM M k l).2.most = M.most := by
  have hn : ∀ (X : SM) c, (noteS X k c).now = X.now ∧ (noteS X k c).lag = X.lag ∧ (noteS X k c).most = X.most := fun X c => by unfold noteS; split <;> exact ⟨rfl, rfl, rfl⟩
  unfold putM
  split
  · exact ⟨rfl, rfl, rfl⟩
  split
  · exact ⟨rfl, rfl, rfl⟩
  split
  · exact ⟨rfl, rfl, rfl⟩
  show (if okS M then actPut (askS M) k l else askS M).now = _ ∧ _
  split
  · exact hn (askS M) true
  · exact ⟨rfl, rfl, rfl⟩
theorem del_now (M : SM) (k : ByteArray) : (delM M k).2.now = M.now ∧ (delM M k).2.lag = M.lag ∧ (delM M k).2.most = M.most := by
  have hn : ∀ (X : SM) c, (noteS X k c).now = X.now ∧ (noteS X k c).lag = X.lag ∧ (noteS X k c).most = X.most := fun X c => by unfold noteS; split <;> exact ⟨rfl, rfl, rfl⟩
  unfold delM
  split
  · exact ⟨rfl, rfl, rfl⟩
  show (if okS M then actDel (askS M) k else askS M).now = _ ∧ _
  split
  · exact hn (askS M) false
  · exact ⟨rfl, rfl, rfl⟩
theorem CwI.put {M : SM} {came went : ByteArray → Nat} (h : CwI M came went) (ct : ∀ x ∈ M.ch, x.t ≤ M.now) (k : ByteArray) (l : List Nat) :
    ((alook M.L k).isSome = true ∧ CwI (putM M k l).2 came went) ∨ ((alook M.L k).isSome = false ∧ (alook (putM M k l).2.L k).isSome = false ∧ CwI (putM M k l).2 came went) ∨ ((alook M.L k).isSome = false ∧ (alook (putM M k l).2.L k).isSome = true ∧ CwI (putM M k l).2 (upd came k (M.now + 1)) went) := by
  have still : ∀ M' : SM, M'.L = M.L → M'.ch = M.ch → M'.now = M.now → ((alook M.L k).isSome = true ∧ CwI M' came went) ∨ ((alook M.L k).isSome = false ∧ (alook M'.L k).isSome = false ∧ CwI M' came went) ∨ ((alook M.L k).isSome = false ∧ (alook M'.L k).isSome = true ∧ CwI M' (upd came k (M.now + 1)) went) := fun M' h1 h2 h3 => by
    have hs := h.same (M' := M') (fun j => by rw [h1]) h2 (by omega)
    cases hy : (alook M.L k).isSome
    · exact .inr (.inl ⟨rfl, by rw [h1, hy], hs⟩)
    · exact .inl ⟨rfl, hs⟩
  unfold putM
  by_cases h1 : nameB k = false
  · rw [if_pos h1]; exact still M rfl rfl rfl
  rw [if_neg h1]
  by_cases h2 : 1048576 < l.length
  · rw [if_pos h2]; exact still M rfl rfl rfl
  rw [if_neg h2]
  by_cases h3 : fullS M k = true
  · rw [if_pos h3]; exact still M rfl rfl rfl
  rw [if_neg h3]
  by_cases ho : okS M = true
  · rw [if_pos ho]
    have eL : (actPut (askS M) k l).L = aput M.L k l := rfl
    have hL : ∀ j, j ∈ akeys (actPut (askS M) k l).L ↔ j = k ∨ j ∈ akeys M.L := fun j => by rw [eL]; exact mem_keys_put
    cases hy : (alook M.L k).isSome
    · refine .inr (.inr ⟨rfl, by rw [eL, al_put_same]; rfl, h.add ct hL ?_ ?_⟩)
      · show (noteS (askS M) k true).ch = _
        unfold noteS
        rw [if_neg (by show ¬ (alook M.L k).isSome = true; rw [hy]; decide)]
        rfl
      · show (noteS (askS M) k true).now = _
        unfold noteS
        split <;> rfl
    · refine .inl ⟨rfl, h.same (fun j => ?_) ?_ ?_⟩
      · rw [hL j]
        have := al_isSome.1 hy
        constructor
        · rintro (rfl | h); exact this; exact h
        · exact .inr
      · show (noteS (askS M) k true).ch = _
        unfold noteS
        rw [if_pos (by show (alook M.L k).isSome = true; exact hy)]
        rfl
      · show _ ≤ (noteS (askS M) k true).now
        unfold noteS
        split <;> exact Nat.le_refl _
  · rw [if_neg ho]
    exact still (askS M) rfl rfl rfl
theorem CwI.del {M : SM} {came went : ByteArray → Nat} (h : CwI M came went) (ct : ∀ x ∈ M.ch, x.t ≤ M.now) (k : ByteArray) :
    ((alook M.L k).isSome = false ∧ CwI (delM M k).2 came went) ∨ ((alook M.L k).isSome = true ∧ (alook (delM M k).2.L k).isSome = true ∧ CwI (delM M k).2 came went) ∨ ((alook M.L k).isSome = true ∧ (alook (delM M k).2.L k).isSome = false ∧ CwI (delM M k).2 came (upd went k (M.now + 1))) := by
  have still : ∀ M' : SM, M'.L = M.L → M'.ch = M.ch → M'.now = M.now → ((alook M.L k).isSome = false ∧ CwI M' came went) ∨ ((alook M.L k).isSome = true ∧ (alook M'.L k).isSome = true ∧ CwI M' came went) ∨ ((alook M.L k).isSome = true ∧ (alook M'.L k).isSome = false ∧ CwI M' came (upd went k (M.now + 1))) := fun M' h1 h2 h3 => by
    have hs := h.same (M' := M') (fun j => by rw [h1]) h2 (by omega)
    cases hy : (alook M.L k).isSome
    · exact .inl ⟨rfl, hs⟩
    · exact .inr (.inl ⟨rfl, by rw [h1, hy], hs⟩)
  unfold delM
  by_cases h1 : nameB k = false
  · rw [if_pos h1]; exact still M rfl rfl rfl
  rw [if_neg h1]
  by_cases ho : okS M = true
  · rw [if_pos ho]
    have eL : (actDel (askS M) k).L = adel k M.L := rfl
    have hL : ∀ j, j ∈ akeys (actDel (askS M) k).L ↔ j ≠ k ∧ j ∈ akeys M.L := fun j => by rw [eL]; exact mem_keys_del
    cases hy : (alook M.L k).isSome
    · refine .inl ⟨rfl, h.same (fun j => ?_) ?_ ?_⟩
      · rw [hL j]
        have : k ∉ akeys M.L := fun hm => by rw [al_isSome.2 hm] at hy; cases hy
        exact ⟨fun x => x.2, fun x => ⟨fun e => this (e ▸ x), x⟩⟩
      · show (noteS (askS M) k false).ch = _
        unfold noteS
        rw [if_pos (by show (alook M.L k).isSome = false; exact hy)]
        rfl
      · show _ ≤ (noteS (askS M) k false).now
        unfold noteS
        split <;> exact Nat.le_refl _
    · refine .inr (.inr ⟨rfl, by rw [eL, al_del_same]; rfl, h.rem ct (al_isSome.1 hy) hL ?_ ?_⟩)
      · show (noteS (askS M) k false).ch = _
        unfold noteS
        rw [if_neg (by show ¬ (alook M.L k).isSome = false; rw [hy]; decide)]
        rfl
      · show (noteS (askS M) k false).now = _
        unfold noteS
        split <;> rfl
  · rw [if_neg ho]
    exact still (askS M) rfl rfl rfl
end Go.Icz
