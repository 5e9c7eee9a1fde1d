/-
  The numbers that a decoder gives one behind the other, and the list of numbers that bytes hold. Conditions: those that each theorem names.
-/
import Derived.Test.YtcdfjkhjdiojbaaRefDec
import Derived.Test.YtcdfjkhjdiojbaaListB
namespace Go.Icz
open Go.RowKit
theorem numD_sub (l : List Nat) (er : Nat) : (∀ c ∈ (numD l er).2.1, c ∈ l) ∧ (numD l er).2.1.length ≤ l.length := by
  unfold numD
  split
  · exact ⟨fun _ h => h, Nat.le_refl _⟩
  · split
    · exact ⟨fun _ h => h, Nat.le_refl _⟩
    · exact ⟨fun _ h => List.mem_of_mem_drop h, by simp only [List.length_drop]; omega⟩
theorem numD_num {n : Nat} (r : List Nat) (h : n < 72057594037927936) : numD (num n ++ r) 0 = (n, r, 0) := by
  unfold numD
  rw [rdn_num r h]
  simp
theorem numD_lt (l : List Nat) (er : Nat) : (numD l er).1 < 72057594037927936 := by
  unfold numD
  split
  · simp
  · split
    · simp
    · exact rdn_lt l
/-- So many numbers: they, the bytes left, the error. -/
def numsD (l : List Nat) (er : Nat) : Nat → List Nat × List Nat × Nat
  | 0 => ([], l, er)
  | k + 1 => ((numsD l er k).1 ++ [(numD (numsD l er k).2.1 (numsD l er k).2.2).1], (numD (numsD l er k).2.1 (numsD l er k).2.2).2.1, (numD (numsD l er k).2.1 (numsD l er k).2.2).2.2)
theorem numsD_sub (l : List Nat) (er : Nat) : ∀ k, (∀ c ∈ (numsD l er k).2.1, c ∈ l) ∧ (numsD l er k).2.1.length ≤ l.length
  | 0 => ⟨fun _ h => h, Nat.le_refl _⟩
  | k + 1 => by
    obtain ⟨h1, h2⟩ := numsD_sub l er k
    obtain ⟨h3, h4⟩ := numD_sub (numsD l er k).2.1 (numsD l er k).2.2
    exact ⟨fun c hc => h1 c (h3 c hc), Nat.le_trans h4 h2⟩
theorem numsD_len (l : List Nat) (er : Nat) : ∀ k, (numsD l er k).1.length = k
  | 0 => rfl
  | k + 1 => by simp [numsD, numsD_len l er k]
theorem numD_err (l : List Nat) {er : Nat} (h : er ≠ 0) : numD l er = (0, l, er) := by simp [numD, h]
theorem numsD_err (l : List Nat) {er : Nat} : ∀ k, (numsD l er k).2.2 ≠ 0 → ∀ j, (numsD l er (k + j)).2.2 = (numsD l er k).2.2
  | k, h, 0 => rfl
  | k, h, j + 1 => by
    have ih := numsD_err l k h j
    show (numD (numsD l er (k + j)).2.1 (numsD l er (k + j)).2.2).2.2 = _
    rw [numD_err _ (by rw [ih]; exact h)]
    exact ih
/-- The list that bytes hold, and an error. -/
def getOk (b : List Nat) : Prop :=
  (numD b 0).1 ≤ 65536 ∧ doneD (numsD (numD b 0).2.1 (numD b 0).2.2 (numD b 0).1).2.1 (numsD (numD b 0).2.1 (numD b 0).2.2 (numD b 0).1).2.2 = 0 ∧ idsN (-1) (numsD (numD b 0).2.1 (numD b 0).2.2 (numD b 0).1).1 < 1099511627776
instance (b : List Nat) : Decidable (getOk b) := by unfold getOk; exact inferInstance
def getL (b : List Nat) : List Int := if getOk b then idsL (-1) (numsD (numD b 0).2.1 (numD b 0).2.2 (numD b 0).1).1 else []
def getN (b : List Nat) : Nat := if getOk b then 0 else 21
/-- What a loop gathers that adds with wrapping: the same as long as it fits. -/
def Gath (ns : List Nat) (acc : List Int) (id : Int) : Prop :=
  acc.length = ns.length ∧ (idsN (-1) ns < 1099511627776 → acc = idsL (-1) ns ∧ id = idsN (-1) ns) ∧ (¬ idsN (-1) ns < 1099511627776 → ¬ OkI acc)
theorem Gath.nil : Gath [] [] (-1) := ⟨rfl, fun _ => ⟨rfl, rfl⟩, fun h => absurd (by simp [idsN]) h⟩
theorem Gath.step {ns : List Nat} {acc : List Int} {id id2 : Int} {n : Nat} (h : Gath ns acc id) (hn : n < 72057594037927936) (h2 : IntKind.i64.wrap (id + (1 + (n : Int))) = id2) : Gath (ns ++ [n]) (acc ++ [id2]) id2 := by
  obtain ⟨h0, h3, h4⟩ := h
  obtain ⟨e1, e2⟩ := idsL_snoc ns (-1) n
  have hg := idsN_ge ns (-1)
  refine ⟨by simp [h0], fun hlt => ?_, fun hge => ?_⟩
  · rw [e2] at hlt
    obtain ⟨e3, e4⟩ := h3 (by omega)
    have : id2 = idsN (-1) ns + 1 + n := by rw [← h2, e4, IntKind.wrap_i64]; omega
    rw [e1, e2, e3, this]
    exact ⟨rfl, rfl⟩
  · by_cases hlt : idsN (-1) ns < 1099511627776
    · obtain ⟨e3, e4⟩ := h3 hlt
      have e5 : id2 = idsN (-1) ns + 1 + n := by rw [← h2, e4, IntKind.wrap_i64]; omega
      rw [e2] at hge
      intro hok
      have := hok.1 id2 (by simp)
      omega
    · have h5 := h4 hlt
      intro hok
      exact h5 ⟨fun x hx => hok.1 x (List.mem_append_left _ hx), (List.pairwise_append.1 hok.2).1⟩
theorem Gath.right {ns : List Nat} {acc : List Int} {id : Int} (h : Gath ns acc id) : rightI acc = decide (ns.length ≤ 65536 ∧ idsN (-1) ns < 1099511627776) := by
  obtain ⟨h0, h3, h4⟩ := h
  unfold rightI
  by_cases hlt : idsN (-1) ns < 1099511627776
  · obtain ⟨e3, _⟩ := h3 hlt
    have := (OkI_ids ns).2 hlt
    rw [e3, idsL_len]
    simp [this, hlt]
  · have := h4 hlt
    simp [this, hlt]
theorem numsD_bytes (r : List Nat) : ∀ (ns : List Nat), (∀ n ∈ ns, n < 72057594037927936) → ∀ k, k ≤ ns.length → numsD (numsB ns ++ r) 0 k = (ns.take k, numsB (ns.drop k) ++ r, 0)
  | ns, h, 0, _ => by simp [numsD]
  | ns, h, k + 1, hk => by
    have ih := numsD_bytes r ns h k (by omega)
    have hlt : k < ns.length := by omega
    have hx := h ns[k] (List.getElem_mem hlt)
    unfold numsD
    rw [ih]
    simp only
    rw [List.drop_eq_getElem_cons hlt]
    simp only [numsB, List.append_assoc]
    rw [numD_num _ hx, List.take_succ_eq_append_getElem hlt]
theorem difs_lt : ∀ (l : List Int) (a : Int), -1 ≤ a → (∀ x ∈ l, 0 ≤ x) → (∀ x ∈ l, x < 1099511627776) → ∀ n ∈ difs a l, n < 72057594037927936
  | [], _, _, _, _, n, h => by simp [difs] at h
  | x :: t, a, ha, hl0, hl, n, h => by
    have hx := hl x (List.mem_cons_self ..)
    rcases List.mem_cons.1 h with rfl | h
    · omega
    · exact difs_lt t x (by have := hl0 x (List.mem_cons_self ..); omega) (fun y hy => hl0 y (List.mem_cons_of_mem _ hy)) (fun y hy => hl y (List.mem_cons_of_mem _ hy)) n h
/-- What was written is read. -/
theorem get_back {l : List Int} (h : rightI l = true) : getOk (listB l) ∧ getL (listB l) = l := by
  have h' : l.length ≤ 65536 ∧ OkI l := by unfold rightI at h; simpa using h
  obtain ⟨h1, h2⟩ := h'
  have hd : ∀ n ∈ difs (-1) l, n < 72057594037927936 := difs_lt l (-1) (by omega) (fun x hx => (h2.1 x hx).1) (fun x hx => (h2.1 x hx).2)
  have e1 : numD (listB l) 0 = (l.length, numsB (difs (-1) l), 0) := numD_num _ (by omega)
  have e2 := numsD_bytes [] (difs (-1) l) hd l.length (by rw [difs_len]; exact Nat.le_refl _)
  rw [List.append_nil, List.take_of_length_le (by rw [difs_len]; exact Nat.le_refl _), List.drop_eq_nil_of_le (by rw [difs_len]; exact Nat.le_refl _)] at e2
  have e3 : idsL (-1) (difs (-1) l) = l := idsL_difs l (-1) (fun x hx => by have := h2.1 x hx; omega) h2.2
  have hok : getOk (listB l) := by
    unfold getOk
    rw [e1]
    simp only
    rw [e2]
    refine ⟨h1, by simp [numsB, doneD], ?_⟩
    rw [← OkI_ids]
    simp only
    rw [e3]
    exact h2
  refine ⟨hok, ?_⟩
  unfold getL
  rw [if_pos hok, e1]
  simp only
  rw [e2]
  exact e3
end Go.Icz
