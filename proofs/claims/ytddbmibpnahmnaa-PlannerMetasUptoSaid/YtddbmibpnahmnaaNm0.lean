/-
  Blocks' Metas: which may be, lists that are fine, order, runs, and what is joined. No condition.
-/
import Derived.Test.YtddbmibpnahmnaaGRo
namespace Go.Icz
structure MV where
  id : Int
  least : Int
  most : Int
  first : Int
  last : Int
  rows : Int
  bytes : Int
  level : Int
  deriving DecidableEq, Inhabited
def rightM (m : MV) : Bool := decide (1 ≤ m.id ∧ m.id < 1099511627776 ∧ 0 ≤ m.least ∧ m.least < 1099511627776 ∧ m.least ≤ m.most ∧ m.most < 1099511627776 ∧ 1 ≤ m.first ∧ m.first < 1099511627776 ∧ m.first ≤ m.last ∧ m.last < 1099511627776 ∧ 1 ≤ m.rows ∧ m.rows < 1099511627776 ∧ 0 ≤ m.bytes ∧ m.bytes < 1099511627776 ∧ 0 ≤ m.level ∧ m.level ≤ 20)
def wthn (lo n hi : Int) : Int := min (max n lo) hi
def nearM (m : MV) : MV := ⟨wthn 1 m.id 1099511627775, wthn 0 m.least 1099511627775, wthn (wthn 0 m.least 1099511627775) m.most 1099511627775, wthn 1 m.first 1099511627775, wthn (wthn 1 m.first 1099511627775) m.last 1099511627775, wthn 1 m.rows 1099511627775, wthn 0 m.bytes 1099511627775, wthn 0 m.level 20⟩
theorem near_right (m : MV) : decide (m = nearM m) = rightM m := by
  obtain ⟨a, b, c, d, e, f, g, h⟩ := m
  unfold rightM nearM wthn
  simp only [MV.mk.injEq]
  rw [decide_eq_decide]
  constructor
  · rintro ⟨h1, h2, h3, h4, h5, h6, h7, h8⟩
    omega
  · rintro h
    omega
structure RtM (m : MV) : Prop where
  id1 : 1 ≤ m.id
  id2 : m.id < 1099511627776
  le1 : 0 ≤ m.least
  le2 : m.least < 1099511627776
  mo1 : m.least ≤ m.most
  mo2 : m.most < 1099511627776
  fi1 : 1 ≤ m.first
  fi2 : m.first < 1099511627776
  la1 : m.first ≤ m.last
  la2 : m.last < 1099511627776
  ro1 : 1 ≤ m.rows
  ro2 : m.rows < 1099511627776
  by1 : 0 ≤ m.bytes
  by2 : m.bytes < 1099511627776
  lv1 : 0 ≤ m.level
  lv2 : m.level ≤ 20
theorem rt_iff {m : MV} : rightM m = true ↔ RtM m := by
  unfold rightM
  rw [decide_eq_true_eq]
  exact ⟨fun ⟨a, b, c, d, e, f, g, h, i, j, k, l, m, n, o, p⟩ => ⟨a, b, c, d, e, f, g, h, i, j, k, l, m, n, o, p⟩, fun ⟨a, b, c, d, e, f, g, h, i, j, k, l, m, n, o, p⟩ => ⟨a, b, c, d, e, f, g, h, i, j, k, l, m, n, o, p⟩⟩
def idsM (l : List MV) : List Int := l.map (·.id)
def FinT (l : List MV) : Prop := (∀ x ∈ l, rightM x = true) ∧ (idsM l).Nodup
instance (l : List MV) : Decidable (FinT l) := by unfold FinT; infer_instance
def fineM (l : List MV) : Bool := decide (FinT l)
theorem idsM_app (l m : List MV) : idsM (l ++ m) = idsM l ++ idsM m := by simp [idsM]
theorem fin_snoc (l : List MV) (x : MV) : FinT (l ++ [x]) ↔ FinT l ∧ rightM x = true ∧ x.id ∉ idsM l := by
  unfold FinT
  rw [idsM_app]
  constructor
  · rintro ⟨h1, h2⟩
    obtain ⟨a, _, c⟩ := List.nodup_append.1 h2
    exact ⟨⟨fun y hy => h1 y (List.mem_append_left _ hy), a⟩, h1 x (by simp), fun h => c x.id h x.id (by simp [idsM]) rfl⟩
  · rintro ⟨⟨h1, h2⟩, h3, h4⟩
    refine ⟨fun y hy => ?_, List.nodup_append.2 ⟨h2, by simp [idsM], ?_⟩⟩
    · rcases List.mem_append.1 hy with hy | hy
      · exact h1 y hy
      · obtain rfl := List.mem_singleton.1 hy
        exact h3
    · intro a ha b hb e
      obtain rfl : b = x.id := by simpa [idsM] using hb
      exact h4 (e ▸ ha)
theorem FinT.sub {l m : List MV} (h : FinT l) (hs : m.Sublist l) : FinT m := ⟨fun x hx => h.1 x (hs.subset hx), h.2.sublist (hs.map _)⟩
theorem FinT.perm {l m : List MV} (h : FinT l) (hs : m.Perm l) : FinT m := ⟨fun x hx => h.1 x (hs.subset hx), (hs.map _).nodup_iff.2 h.2⟩
theorem fin_step {l : List MV} {i : Nat} (hi : i < l.length) : FinT (l.take (i + 1)) ↔ FinT (l.take i) ∧ rightM l[i] = true ∧ l[i].id ∉ idsM (l.take i) := by
  rw [List.take_succ_eq_append_getElem hi]
  exact fin_snoc _ _
theorem fine_no {l : List MV} {i : Nat} (hi : i < l.length) (h : rightM l[i] = false ∨ l[i].id ∈ idsM (l.take i)) : fineM l = false := by
  unfold fineM
  rw [decide_eq_false_iff_not]
  intro hf
  have h2 := (fin_step hi).1 (hf.sub (List.take_sublist _ _))
  rcases h with h | h
  · rw [h] at h2; cases h2.2.1
  · exact h2.2.2 h
theorem fine_yes {l : List MV} {i : Nat} (hi : l.length ≤ i) (h : FinT (l.take i)) : fineM l = true := by
  rw [List.take_of_length_le hi] at h
  exact decide_eq_true h
theorem fine_iff {l : List MV} : fineM l = true ↔ FinT l := by unfold fineM; rw [decide_eq_true_eq]
def lookM (f t : Int) (x : MV) : Bool := decide (x.least < t) && decide (x.most ≥ f)
def overM (k n : Int) (x : MV) : Bool := decide (1 ≤ k ∧ x.most < n ∧ k ≤ n - x.most)
def thoseM (l : List MV) (p : MV → Bool) : List MV := if fineM l = true then l.filter p else []
theorem those_len (l : List MV) (p : MV → Bool) : (thoseM l p).length ≤ l.length := by
  unfold thoseM
  split
  · exact List.length_filter_le _ _
  · simp
theorem filter_take {α : Type} {l : List α} {i : Nat} (hi : i < l.length) (p : α → Bool) : (l.take (i + 1)).filter p = (l.take i).filter p ++ (if p l[i] = true then [l[i]] else []) := by
  rw [List.take_succ_eq_append_getElem hi, List.filter_append]
  congr 1
  cases h : p l[i] <;> simp [h]
/-- Order by First, then by ID. -/
def ltM (a b : MV) : Prop := a.first < b.first ∨ a.first = b.first ∧ a.id < b.id
instance (a b : MV) : Decidable (ltM a b) := by unfold ltM; infer_instance
def SrtM (s : List MV) : Prop := s.Pairwise ltM
theorem srt_one : ∀ {s t : List MV}, s.Perm t → SrtM s → SrtM t → s = t
  | [], t, h, _, _ => h.nil_eq
  | a :: s, [], h, _, _ => absurd h.length_eq (by simp)
  | a :: s, b :: t, h, h1, h2 => by
    obtain ⟨a1, a2⟩ := List.pairwise_cons.1 h1
    obtain ⟨b1, b2⟩ := List.pairwise_cons.1 h2
    have e : a = b := by
      rcases List.mem_cons.1 (h.subset (List.mem_cons_self ..)) with e | m1
      · exact e
      · rcases List.mem_cons.1 (h.symm.subset (List.mem_cons_self ..)) with e | m2
        · exact e.symm
        · have x1 := b1 a m1
          have x2 := a1 b m2
          unfold ltM at x1 x2
          omega
    subst e
    rw [srt_one (List.Perm.cons_inv h) a2 b2]
theorem srt_insert {s : List MV} (hs : SrtM s) {x : MV} {k : Nat} (hk : k ≤ s.length) (hlo : ∀ j (h : j < s.length), j < k → ltM s[j] x) (hhi : ∀ j (h : j < s.length), k ≤ j → ltM x s[j]) : SrtM (s.take k ++ [x] ++ s.drop k) := by
  unfold SrtM at *
  rw [List.append_assoc, List.pairwise_append]
  have e := List.take_append_drop k s
  rw [← e, List.pairwise_append] at hs
  obtain ⟨s1, s2, s3⟩ := hs
  refine ⟨s1, ?_, ?_⟩
  · rw [List.singleton_append, List.pairwise_cons]
    refine ⟨fun y hy => ?_, s2⟩
    obtain ⟨j, hj, rfl⟩ := List.mem_iff_getElem.1 hy
    rw [List.length_drop] at hj
    rw [List.getElem_drop]
    exact hhi _ (by omega) (by omega)
  · intro y hy z hz
    rw [List.singleton_append, List.mem_cons] at hz
    rcases hz with rfl | hz
    · obtain ⟨j, hj, rfl⟩ := List.mem_iff_getElem.1 hy
      rw [List.length_take] at hj
      rw [List.getElem_take]
      exact hlo _ (by omega) (by omega)
    · exact s3 y hy z hz
theorem ltM_trans {a b c : MV} (h1 : ltM a b) (h2 : ltM b c) : ltM a c := by
  unfold ltM at *
  omega
theorem ltM_not {a b : MV} (h : ¬ ltM a b) (hne : a.id ≠ b.id) : ltM b a := by
  unfold ltM at *
  omega
theorem srt_lo {s : List MV} (hs : SrtM s) {x : MV} {k : Nat} (h0 : k < s.length) (h : ltM s[k] x) : ∀ j (h : j < s.length), j < k + 1 → ltM s[j] x := by
  intro j hj hjk
  by_cases e : j = k
  · subst e; exact h
  · exact ltM_trans (List.pairwise_iff_getElem.1 hs j k hj h0 (by omega)) h
/-- A run: as many as the fan, from the i-th on. -/
def winM (s : List MV) (fan i : Nat) : List MV := (s.drop i).take fan
def sumB (l : List MV) : Int := (l.map (·.bytes)).sum
theorem sumB_app (l m : List MV) : sumB (l ++ m) = sumB l + sumB m := by simp [sumB]
theorem sumB_one (x : MV) : sumB [x] = x.bytes := by simp [sumB]
theorem sumB_nonneg {l : List MV} (h : ∀ x ∈ l, 0 ≤ x.bytes) : 0 ≤ sumB l := by
  induction l with
  | nil => simp [sumB]
  | cons x t ih =>
    have h1 := ih (fun y hy => h y (List.mem_cons_of_mem _ hy))
    have h2 := h x (List.mem_cons_self ..)
    unfold sumB at *
    rw [List.map_cons, List.sum_cons]
    omega
def goodM (s : List MV) (fan : Nat) (mb lv : Int) (i : Nat) : Prop := (∀ x ∈ winM s fan i, x.level = lv) ∧ sumB (winM s fan i) ≤ mb
instance (s : List MV) (fan : Nat) (mb lv : Int) (i : Nat) : Decidable (goodM s fan mb lv i) := by unfold goodM; infer_instance
/-- What is packed of blocks that stand in order. -/
def PackA (s : List MV) (fan : Nat) (mb : Int) (a : List MV) : Prop :=
  (∃ lv i : Nat, lv < 20 ∧ i + fan ≤ s.length ∧ goodM s fan mb lv i ∧ (∀ lv' i' : Nat, (lv' < lv ∨ lv' = lv ∧ i' < i) → i' + fan ≤ s.length → ¬ goodM s fan mb lv' i') ∧ a = winM s fan i) ∨
  ((∀ lv i : Nat, lv < 20 → i + fan ≤ s.length → ¬ goodM s fan mb lv i) ∧ a = [])
theorem PackA.one {s : List MV} {fan : Nat} {mb : Int} {a b : List MV} (h : PackA s fan mb a) (k : PackA s fan mb b) : a = b := by
  rcases h with ⟨lv, i, h1, h2, h3, h4, rfl⟩ | ⟨h1, rfl⟩
  · rcases k with ⟨lv', i', k1, k2, k3, k4, rfl⟩ | ⟨k1, rfl⟩
    · have e1 : lv = lv' := by
        rcases Nat.lt_trichotomy lv lv' with h | h | h
        · exact absurd h3 (k4 _ _ (.inl h) h2)
        · exact h
        · exact absurd k3 (h4 _ _ (.inl h) k2)
      subst e1
      have e2 : i = i' := by
        rcases Nat.lt_trichotomy i i' with h | h | h
        · exact absurd h3 (k4 _ _ (.inr ⟨rfl, h⟩) h2)
        · exact h
        · exact absurd k3 (h4 _ _ (.inr ⟨rfl, h⟩) k2)
      rw [e2]
    · exact absurd h3 (k1 _ _ h1 h2)
  · rcases k with ⟨lv', i', k1, k2, k3, k4, rfl⟩ | ⟨k1, rfl⟩
    · exact absurd k3 (h1 _ _ k1 k2)
    · rfl
def packsM (fan mb keep : Int) : Bool := decide (2 ≤ fan ∧ fan ≤ 16 ∧ 1 ≤ mb ∧ 1 ≤ keep)
/-- What Pack tells. -/
def PackOf (l : List MV) (fan mb keep now : Int) (a : List MV) : Prop :=
  ((packsM fan mb keep = false ∨ fineM l = false) ∧ a = []) ∨ (packsM fan mb keep = true ∧ fineM l = true ∧ ∃ s : List MV, s.Perm (l.filter fun x => !overM keep now x) ∧ SrtM s ∧ PackA s fan.toNat mb a)
theorem PackOf.one {l : List MV} {fan mb keep now : Int} {a b : List MV} (h : PackOf l fan mb keep now a) (k : PackOf l fan mb keep now b) : a = b := by
  rcases h with ⟨h1, rfl⟩ | ⟨h1, h2, s, hp, hs, ha⟩
  · rcases k with ⟨k1, rfl⟩ | ⟨k1, k2, t, kp, ks, ka⟩
    · rfl
    · rw [k1, k2] at h1; simp at h1
  · rcases k with ⟨k1, rfl⟩ | ⟨k1, k2, t, kp, ks, ka⟩
    · rw [h1, h2] at k1; simp at k1
    · have e := srt_one (hp.trans kp.symm) hs ks
      subst e
      exact ha.one ka
theorem PackA.len {s : List MV} {fan : Nat} {mb : Int} {a : List MV} (h : PackA s fan mb a) : a = [] ∨ a.length = fan := by
  rcases h with ⟨lv, i, h1, h2, h3, h4, rfl⟩ | ⟨h1, rfl⟩
  · right
    unfold winM
    rw [List.length_take, List.length_drop]
    omega
  · exact .inl rfl
theorem PackA.sub {s : List MV} {fan : Nat} {mb : Int} {a : List MV} (h : PackA s fan mb a) : a.Sublist s := by
  rcases h with ⟨lv, i, h1, h2, h3, h4, rfl⟩ | ⟨h1, rfl⟩
  · exact (List.take_sublist _ _).trans (List.drop_sublist _ _)
  · exact List.nil_sublist _
theorem PackOf.len {l : List MV} {fan mb keep now : Int} {a : List MV} (h : PackOf l fan mb keep now a) : a.length ≤ l.length := by
  rcases h with ⟨_, rfl⟩ | ⟨_, _, s, hp, _, ha⟩
  · simp
  · have h1 := ha.sub.length_le
    have h2 := hp.length_eq
    have h3 := List.length_filter_le (fun x => !overM keep now x) l
    omega
/-- Two blocks together. -/
def bothM (a b : MV) : MV := ⟨a.id, min a.least b.least, max a.most b.most, min a.first b.first, max a.last b.last, min (a.rows + b.rows) 1099511627776, min (a.bytes + b.bytes) 1099511627776, max a.level b.level⟩
def zeroM : MV := ⟨0, 0, 0, 0, 0, 0, 0, 0⟩
def topM (m : MV) (id : Int) : MV := ⟨id, m.least, m.most, m.first, m.last, m.rows, m.bytes, m.level + 1⟩
def joinM (l : List MV) (id : Int) : MV × Bool :=
  match l with
  | [] => (zeroM, false)
  | x :: t => if fineM (x :: t) = true then (if rightM (topM (t.foldl bothM x) id) = true then (topM (t.foldl bothM x) id, true) else (zeroM, false)) else (zeroM, false)
/-- What is joined so far keeps within its bounds. -/
structure JnB (m : MV) : Prop where
  ro1 : 0 ≤ m.rows
  ro2 : m.rows ≤ 1099511627776
  by1 : 0 ≤ m.bytes
  by2 : m.bytes ≤ 1099511627776
  lv1 : 0 ≤ m.level
  lv2 : m.level ≤ 20
theorem JnB.of {m : MV} (h : RtM m) : JnB m := ⟨by have := h.ro1; omega, by have := h.ro2; omega, h.by1, by have := h.by2; omega, h.lv1, h.lv2⟩
theorem JnB.both {a b : MV} (h : JnB a) (k : RtM b) : JnB (bothM a b) := by
  obtain ⟨a1, a2, a3, a4, a5, a6⟩ := h
  obtain ⟨_, _, _, _, _, _, _, _, _, _, b1, b2, b3, b4, b5, b6⟩ := k
  constructor <;> simp only [bothM] <;> omega
end Go.Icz
