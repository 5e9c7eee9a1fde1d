/-
  The document's store as mathematics: objects by keys, changes in their order, the clock, the lag, the failure; what a list tells. Conditions: those that each theorem names.
-/
import Derived.Test.YtcohpgahffbnlaaTx0
namespace Go.Icz
open Go.RowKit
/-- Things by their keys. -/
abbrev AL (β : Type) := List (ByteArray × β)
section
variable {β : Type}
def alook (N : AL β) (k : ByteArray) : Option β := (N.find? fun e => decide (e.1 = k)).map (·.2)
def adel (k : ByteArray) (N : AL β) : AL β := N.filter fun e => decide (e.1 ≠ k)
def aput (N : AL β) (k : ByteArray) (i : β) : AL β := adel k N ++ [(k, i)]
def akeys (N : AL β) : List ByteArray := N.map (·.1)
theorem al_del_same (k : ByteArray) (N : AL β) : alook (adel k N) k = none := by
  unfold alook adel
  rw [Option.map_eq_none_iff, List.find?_eq_none]
  intro x hx
  have := (List.mem_filter.1 hx).2
  simpa using this
theorem al_del_other {j k : ByteArray} (h : j ≠ k) : ∀ N : AL β, alook (adel k N) j = alook N j
  | [] => rfl
  | e :: r => by
    have ih := al_del_other h r
    unfold alook adel at ih ⊢
    rw [List.filter_cons]
    by_cases hk : e.1 = k
    · have hj : ¬ e.1 = j := fun hh => h (hh.symm.trans hk)
      simp only [hk, ne_eq, not_true, decide_false, Bool.false_eq_true, if_false]
      rw [List.find?_cons]
      simp only [hj, decide_false]
      exact ih
    · simp only [hk, ne_eq, not_false_iff, decide_true, if_true]
      rw [List.find?_cons, List.find?_cons]
      by_cases hj : e.1 = j
      · simp [hj]
      · simp only [hj, decide_false]
        exact ih
theorem al_put_same (N : AL β) (k : ByteArray) (i : β) : alook (aput N k i) k = some i := by
  have h := al_del_same k N
  unfold aput alook at *
  rw [Option.map_eq_none_iff] at h
  rw [List.find?_append, h]
  simp
theorem al_put_other {j k : ByteArray} (h : j ≠ k) (N : AL β) (i : β) : alook (aput N k i) j = alook N j := by
  rw [← al_del_other h N]
  unfold aput alook
  rw [List.find?_append]
  have : ¬ k = j := fun hh => h hh.symm
  simp [this]
theorem al_mem {N : AL β} {k : ByteArray} {i : β} (h : alook N k = some i) : (k, i) ∈ N := by
  unfold alook at h
  obtain ⟨e, he, rfl⟩ := Option.map_eq_some_iff.1 h
  have h1 := List.find?_some he
  have h2 := List.mem_of_find?_eq_some he
  have : e.1 = k := by simpa using h1
  rw [← this]
  exact h2
theorem al_none {N : AL β} {k : ByteArray} (h : alook N k = none) : ∀ e ∈ N, e.1 ≠ k := by
  unfold alook at h
  rw [Option.map_eq_none_iff, List.find?_eq_none] at h
  intro e he
  simpa using h e he
theorem al_isSome {N : AL β} {k : ByteArray} : (alook N k).isSome = true ↔ k ∈ akeys N := by
  constructor
  · intro h
    obtain ⟨i, hi⟩ := Option.isSome_iff_exists.1 h
    exact List.mem_map.2 ⟨_, al_mem hi, rfl⟩
  · intro h
    obtain ⟨e, he, rfl⟩ := List.mem_map.1 h
    cases hl : alook N e.1
    · exact absurd rfl (al_none hl e he)
    · rfl
theorem al_not {N : AL β} {k : ByteArray} : alook N k = none ↔ k ∉ akeys N := by
  rw [← al_isSome]
  cases alook N k <;> simp
theorem nodup_adel {N : AL β} (h : (akeys N).Nodup) (k : ByteArray) : (akeys (adel k N)).Nodup :=
  h.sublist (List.Sublist.map _ List.filter_sublist)
theorem nodup_aput {N : AL β} (h : (akeys N).Nodup) (k : ByteArray) (i : β) : (akeys (aput N k i)).Nodup := by
  unfold aput akeys
  rw [List.map_append, List.nodup_append]
  refine ⟨nodup_adel h k, by simp, ?_⟩
  intro a ha b hb
  obtain ⟨e, he, rfl⟩ := List.mem_map.1 ha
  obtain rfl : b = k := by simpa using hb
  have := (List.mem_filter.1 he).2
  simpa using this
theorem len_adel_le (k : ByteArray) (N : AL β) : (adel k N).length ≤ N.length := List.length_filter_le _ _
theorem len_adel : ∀ {N : AL β} {k : ByteArray}, (akeys N).Nodup → (adel k N).length + (if (alook N k).isSome then 1 else 0) = N.length := by
  intro N k h
  induction N with
  | nil => rfl
  | cons a r ih =>
    unfold akeys at h
    rw [List.map_cons, List.nodup_cons] at h
    have ih := ih h.2
    by_cases hk : a.1 = k
    · have h1 : adel k (a :: r) = r := by
        unfold adel
        rw [List.filter_cons]
        simp only [hk, ne_eq, not_true, decide_false, Bool.false_eq_true, if_false]
        refine List.filter_eq_self.2 fun e he => ?_
        have : e.1 ≠ k := fun hh => h.1 (List.mem_map.2 ⟨e, he, hh.trans hk.symm⟩)
        simpa using this
      have h2 : alook (a :: r) k = some a.2 := by unfold alook; simp [hk]
      rw [h1, h2]
      simp
    · have h1 : adel k (a :: r) = a :: adel k r := by
        unfold adel
        rw [List.filter_cons]
        simp [hk]
      have h2 : alook (a :: r) k = alook r k := by unfold alook; rw [List.find?_cons]; simp [hk]
      rw [h1, h2, List.length_cons, List.length_cons]
      omega
theorem len_aput {N : AL β} (h : (akeys N).Nodup) (k : ByteArray) (i : β) : (aput N k i).length = if (alook N k).isSome then N.length else N.length + 1 := by
  have := len_adel (k := k) h
  unfold aput
  rw [List.length_append, List.length_singleton]
  split at this <;> rename_i hh <;> simp [hh] <;> omega
theorem mem_aput {N : AL β} {k : ByteArray} {i : β} {e : ByteArray × β} (h : e ∈ aput N k i) : e ∈ N ∨ e = (k, i) := by
  rcases List.mem_append.1 h with h | h
  · exact .inl (List.mem_filter.1 h).1
  · exact .inr (List.mem_singleton.1 h)
theorem mem_keys_put {N : AL β} {k j : ByteArray} {i : β} : j ∈ akeys (aput N k i) ↔ j = k ∨ j ∈ akeys N := by
  rw [← al_isSome, ← al_isSome]
  by_cases e : j = k
  · subst e; simp [al_put_same]
  · simp [al_put_other e, e]
theorem mem_keys_del {N : AL β} {k j : ByteArray} : j ∈ akeys (adel k N) ↔ j ≠ k ∧ j ∈ akeys N := by
  rw [← al_isSome, ← al_isSome]
  by_cases e : j = k
  · subst e; simp [al_del_same]
  · simp [al_del_other e, e]
/-- The keys, rising. -/
def rises (N : AL β) : List (List UInt8) := (N.map fun e => e.1.data.toList).mergeSort (fun x y => decide (x ≤ y))
end
/-- A change. -/
structure Chg where
  t : Nat
  k : ByteArray
  c : Bool
abbrev OM := AL (List Nat)
/-- What a store is; all its changes. -/
structure SM where
  L : OM
  ch : List Chg
  now : Nat
  lag : Nat
  most : Nat
  calls : Nat
  left : Int
  done : Bool
def begB (k : ByteArray) : Bool := decide (k.size ≤ 64) && k.data.toList.all fun c => decide (33 ≤ c.toNat ∧ c.toNat ≤ 126)
def nameB (k : ByteArray) : Bool := decide (1 ≤ k.size) && begB k
/-- Of a call: whether it is done, its error. -/
def nextF (left : Int) (done : Bool) : Bool × Int × Int := if left = 0 then (true, 0, left) else if 0 < left - 1 then (true, 0, left - 1) else (done, 8, left - 1)
def askS (M : SM) : SM := { M with calls := M.calls + 1, left := (nextF M.left M.done).2.2 }
def okS (M : SM) : Bool := (nextF M.left M.done).1
def errS (M : SM) : Int := (nextF M.left M.done).2.1
def noteS (M : SM) (k : ByteArray) (c : Bool) : SM := if (alook M.L k).isSome = c then M else { M with ch := M.ch ++ [⟨M.now, k, c⟩] }
def actPut (M : SM) (k : ByteArray) (l : List Nat) : SM := { noteS M k true with L := aput M.L k l }
def actDel (M : SM) (k : ByteArray) : SM := { noteS M k false with L := adel k M.L }
def fullS (M : SM) (k : ByteArray) : Bool := decide (4096 ≤ M.L.length) && !(alook M.L k).isSome
def putM (M : SM) (k : ByteArray) (l : List Nat) : Int × SM :=
  if nameB k = false then (1, M) else if 1048576 < l.length then (6, M) else if fullS M k then (7, M) else (errS M, if okS M then actPut (askS M) k l else askS M)
def delM (M : SM) (k : ByteArray) : Int × SM := if nameB k = false then (1, M) else (errS M, if okS M then actDel (askS M) k else askS M)
def getM (M : SM) (k : ByteArray) : List Nat × Int × SM :=
  if nameB k = false then ([], 1, M) else if errS M ≠ 0 then ([], errS M, askS M) else match alook M.L k with
    | none => ([], 3, askS M)
    | some l => (l, 0, askS M)
/-- The late changes, from the last one backward; each is taken back. -/
def lateB (M : SM) (c : Chg) : Bool := decide (M.now < c.t + M.lag)
def lateS (M : SM) : List Chg := M.ch.reverse.takeWhile (lateB M)
def back1 (S : AL Unit) (c : Chg) : AL Unit := if c.c then adel c.k S else aput S c.k ()
def backs (S : AL Unit) (l : List Chg) : AL Unit := l.foldl back1 S
def unitOf {β : Type} (N : AL β) : AL Unit := N.map fun e => (e.1, ())
def hasPre (p k : ByteArray) : Bool := p.data.toList.isPrefixOf k.data.toList
def preS (p : ByteArray) (S : AL Unit) : AL Unit := S.filter fun e => hasPre p e.1
def listed (M : SM) (p : ByteArray) : AL Unit := preS p (backs (unitOf M.L) (lateS M))
def listM (M : SM) (p : ByteArray) : List (List UInt8) × Int × SM :=
  if begB p = false then ([], 1, M) else if errS M ≠ 0 then ([], errS M, askS M) else (rises (listed M p), 0, askS M)
def tickB (M : SM) (n : Int) : Bool := decide (0 ≤ n ∧ n ≤ 1073741824 ∧ (M.now : Int) + n ≤ 1099511627776)
def tickM (M : SM) (n : Int) : Int × SM := if tickB M n then (0, { M with now := M.now + n.toNat }) else (1, M)
def lagM (M : SM) (n : Int) : Int × SM := if 0 ≤ n ∧ n ≤ (M.most : Int) then (0, { M with lag := n.toNat }) else (1, M)
def failS (M : SM) (k : Int) (d : Bool) : SM := { M with left := max k 0, done := d }
def newS (lag : Nat) : SM := ⟨[], [], 0, 0, lag, 0, 0, false⟩
/-- The changes that are kept. -/
def oldB (M : SM) (c : Chg) : Bool := decide (c.t + M.most ≤ M.now)
def keptS (M : SM) : List Chg := M.ch.dropWhile (oldB M)
theorem keys_unit {β : Type} (N : AL β) : akeys (unitOf N) = akeys N := by
  unfold akeys unitOf
  rw [List.map_map]
  rfl
theorem nodup_back {S : AL Unit} (h : (akeys S).Nodup) (l : List Chg) : (akeys (backs S l)).Nodup := by
  induction l generalizing S with
  | nil => exact h
  | cons c r ih =>
    refine ih (S := back1 S c) ?_
    unfold back1
    split
    · exact nodup_adel h _
    · exact nodup_aput h _ _
theorem len_back (S : AL Unit) (l : List Chg) : (backs S l).length ≤ S.length + l.length := by
  induction l generalizing S with
  | nil => exact Nat.le_refl _
  | cons c r ih =>
    refine Nat.le_trans (ih (S := back1 S c)) ?_
    have : (back1 S c).length ≤ S.length + 1 := by
      unfold back1
      have := len_adel_le c.k S
      split
      · omega
      · unfold aput
        rw [List.length_append, List.length_singleton]
        omega
    rw [List.length_cons]
    omega
/-- What holds of a store, c calls on. -/
structure WfS (M : SM) (c : Nat) : Prop where
  nn : (akeys M.L).Nodup
  kz : ∀ e ∈ M.L, e.1.size ≤ 64
  bz : ∀ e ∈ M.L, e.2.length ≤ 1048576
  ln : M.L.length ≤ 4096
  cz : ∀ x ∈ M.ch, x.k.size ≤ 64
  ct : ∀ x ∈ M.ch, x.t ≤ M.now
  so : M.ch.Pairwise (fun x y => x.t ≤ y.t)
  nw : M.now ≤ 1099511627776
  lg : M.lag ≤ M.most
  mo : M.most ≤ 100
  ca : M.calls ≤ c
  lc : M.ch.length ≤ c
  hc : c ≤ 4194304
  lf : 0 ≤ M.left ∧ M.left ≤ 9223372036854775807
theorem WfS.le {M : SM} {c d : Nat} (h : WfS M c) (hd : c ≤ d) (hh : d ≤ 4194304) : WfS M d :=
  ⟨h.nn, h.kz, h.bz, h.ln, h.cz, h.ct, h.so, h.nw, h.lg, h.mo, Nat.le_trans h.ca hd, Nat.le_trans h.lc hd, hh, h.lf⟩
theorem nextF_bd {l : Int} {d : Bool} (h : 0 ≤ l ∧ l ≤ 9223372036854775807) : 0 ≤ (nextF l d).2.2 ∧ (nextF l d).2.2 ≤ 9223372036854775807 := by
  unfold nextF
  split
  · exact h
  · split <;> simp only <;> omega
theorem WfS.ask {M : SM} {c : Nat} (h : WfS M c) (hc : c + 1 ≤ 4194304) : WfS (askS M) (c + 1) :=
  ⟨h.nn, h.kz, h.bz, h.ln, h.cz, h.ct, h.so, h.nw, h.lg, h.mo, Nat.succ_le_succ h.ca, Nat.le_succ_of_le h.lc, hc, nextF_bd h.lf⟩
theorem WfS.note {M : SM} {c : Nat} (h : WfS M c) (hc : c + 1 ≤ 4194304) {k : ByteArray} (hk : k.size ≤ 64) (b : Bool) : WfS (noteS M k b) (c + 1) := by
  unfold noteS
  split
  · exact h.le (Nat.le_succ _) hc
  · refine ⟨h.nn, h.kz, h.bz, h.ln, fun x hx => ?_, fun x hx => ?_, ?_, h.nw, h.lg, h.mo, Nat.le_succ_of_le h.ca, ?_, hc, h.lf⟩
    · rcases List.mem_append.1 hx with hx | hx
      · exact h.cz x hx
      · rw [List.mem_singleton.1 hx]; exact hk
    · rcases List.mem_append.1 hx with hx | hx
      · exact h.ct x hx
      · rw [List.mem_singleton.1 hx]; exact Nat.le_refl _
    · refine List.pairwise_append.2 ⟨h.so, List.pairwise_singleton _ _, fun x hx y hy => ?_⟩
      rw [List.mem_singleton.1 hy]
      exact h.ct x hx
    · rw [List.length_append, List.length_singleton]
      exact Nat.succ_le_succ h.lc
theorem WfS.setL {M : SM} {c : Nat} (h : WfS M c) {L : OM} (h1 : (akeys L).Nodup) (h2 : ∀ e ∈ L, e.1.size ≤ 64) (h3 : ∀ e ∈ L, e.2.length ≤ 1048576) (h4 : L.length ≤ 4096) : WfS { M with L := L } c :=
  ⟨h1, h2, h3, h4, h.cz, h.ct, h.so, h.nw, h.lg, h.mo, h.ca, h.lc, h.hc, h.lf⟩
theorem name_beg {k : ByteArray} (h : nameB k = true) : begB k = true ∧ k.size ≤ 64 := by
  unfold nameB at h
  rw [Bool.and_eq_true] at h
  refine ⟨h.2, ?_⟩
  have := h.2
  unfold begB at this
  rw [Bool.and_eq_true, decide_eq_true_eq] at this
  exact this.1
theorem WfS.put {M : SM} {c : Nat} (h : WfS M c) (hc : c + 1 ≤ 4194304) {k : ByteArray} (hk : nameB k = true) {l : List Nat} (hl : l.length ≤ 1048576) (hf : fullS M k = false) : WfS (actPut M k l) (c + 1) := by
  have hn := h.note hc (name_beg hk).2 true
  have e : (noteS M k true).L = M.L := by unfold noteS; split <;> rfl
  refine hn.setL (nodup_aput h.nn _ _) (fun e he => ?_) (fun e he => ?_) ?_
  · rcases mem_aput he with he | rfl
    · exact h.kz e he
    · exact (name_beg hk).2
  · rcases mem_aput he with he | rfl
    · exact h.bz e he
    · exact hl
  · rw [len_aput h.nn]
    have := h.ln
    unfold fullS at hf
    split
    · exact this
    · rename_i hh
      simp only [hh, Bool.and_eq_false_iff, decide_eq_false_iff_not] at hf
      rcases hf with hf | hf
      · omega
      · simp at hf
theorem WfS.del {M : SM} {c : Nat} (h : WfS M c) (hc : c + 1 ≤ 4194304) {k : ByteArray} (hk : nameB k = true) : WfS (actDel M k) (c + 1) := by
  have hn := h.note hc (name_beg hk).2 false
  exact hn.setL (nodup_adel h.nn _) (fun e he => h.kz e (List.mem_filter.1 he).1) (fun e he => h.bz e (List.mem_filter.1 he).1) (Nat.le_trans (len_adel_le _ _) h.ln)
theorem WfS.tick {M : SM} {c : Nat} (h : WfS M c) {n : Int} (hn : tickB M n = true) : WfS { M with now := M.now + n.toNat } c := by
  unfold tickB at hn
  simp only [decide_eq_true_eq] at hn
  refine ⟨h.nn, h.kz, h.bz, h.ln, h.cz, fun x hx => ?_, h.so, ?_, h.lg, h.mo, h.ca, h.lc, h.hc, h.lf⟩
  · exact Nat.le_trans (h.ct x hx) (Nat.le_add_right _ _)
  · show M.now + n.toNat ≤ _
    omega
theorem WfS.fail {M : SM} {c : Nat} (h : WfS M c) {k : Int} (hk : k ≤ 9223372036854775807) (d : Bool) : WfS (failS M k d) c :=
  ⟨h.nn, h.kz, h.bz, h.ln, h.cz, h.ct, h.so, h.nw, h.lg, h.mo, h.ca, h.lc, h.hc, by show 0 ≤ max k 0 ∧ max k 0 ≤ _; omega⟩
theorem WfS.lag {M : SM} {c : Nat} (h : WfS M c) {n : Nat} (hn : n ≤ M.most) : WfS { M with lag := n } c :=
  ⟨h.nn, h.kz, h.bz, h.ln, h.cz, h.ct, h.so, h.nw, hn, h.mo, h.ca, h.lc, h.hc, h.lf⟩
theorem WfS.new {n : Nat} (hn : n ≤ 100) : WfS (newS n) 0 :=
  ⟨List.nodup_nil, fun _ h => (by cases h), fun _ h => (by cases h), Nat.zero_le _, fun _ h => (by cases h), fun _ h => (by cases h), List.Pairwise.nil, Nat.zero_le _, Nat.zero_le _, hn, Nat.le_refl _, Nat.le_refl _, Nat.zero_le _, by simp [newS]⟩
/-- What is forgotten stays so. -/
theorem drop_more {α : Type} {p q : α → Bool} (h : ∀ x, p x = true → q x = true) : ∀ l m : List α, (l.dropWhile p ++ m).dropWhile q = (l ++ m).dropWhile q
  | [], _ => rfl
  | x :: r, m => by
    rw [List.dropWhile_cons]
    cases hp : p x with
    | true => simp only [if_true]; rw [drop_more h r m, List.cons_append, List.dropWhile_cons, if_pos (h x hp)]
    | false => simp
/-- The late ones are kept. -/
theorem late_kept {M : SM} {c : Nat} (h : WfS M c) : (keptS M).reverse.takeWhile (lateB M) = lateS M := by
  unfold lateS keptS
  have e : M.ch = M.ch.takeWhile (oldB M) ++ M.ch.dropWhile (oldB M) := List.takeWhile_append_dropWhile.symm
  have hold : ∀ x ∈ M.ch.takeWhile (oldB M), lateB M x = false := by
    intro x hx
    have h1 := List.all_takeWhile (p := oldB M) (l := M.ch)
    have := List.all_eq_true.1 h1 x hx
    unfold oldB at this
    unfold lateB
    have := of_decide_eq_true this
    have := h.lg
    exact decide_eq_false (by omega)
  conv => rhs; rw [e]
  rw [List.reverse_append, List.takeWhile_append]
  split
  · rename_i hl
    have h2 : (M.ch.takeWhile (oldB M)).reverse.takeWhile (lateB M) = [] := by
      cases hr : (M.ch.takeWhile (oldB M)).reverse with
      | nil => rfl
      | cons x r =>
        have : x ∈ M.ch.takeWhile (oldB M) := by rw [← List.mem_reverse, hr]; simp
        rw [List.takeWhile_cons, hold x this]
        rfl
    rw [h2, List.append_nil]
    have h3 := List.takeWhile_prefix (p := lateB M) (l := (M.ch.dropWhile (oldB M)).reverse)
    exact h3.eq_of_length hl
  · rfl
end Go.Icz
