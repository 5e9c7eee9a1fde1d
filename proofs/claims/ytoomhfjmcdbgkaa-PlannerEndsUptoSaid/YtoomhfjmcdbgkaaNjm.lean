/-
  What is joined does not hang on the order: mathematics. No condition.
-/
import Derived.Test.YtoomhfjmcdbgkaaNjo
namespace Go.Icz
def sumR (l : List MV) : Int := (l.map (·.rows)).sum
/-- What is joined of the list, but for its ID. -/
structure JnF (l : List MV) (q : MV) : Prop where
  le1 : ∀ y ∈ l, q.least ≤ y.least
  le2 : ∃ y ∈ l, q.least = y.least
  mo1 : ∀ y ∈ l, y.most ≤ q.most
  mo2 : ∃ y ∈ l, q.most = y.most
  fi1 : ∀ y ∈ l, q.first ≤ y.first
  fi2 : ∃ y ∈ l, q.first = y.first
  la1 : ∀ y ∈ l, y.last ≤ q.last
  la2 : ∃ y ∈ l, q.last = y.last
  lv1 : ∀ y ∈ l, y.level ≤ q.level
  lv2 : ∃ y ∈ l, q.level = y.level
  ro : q.rows = min (sumR l) 1099511627776
  by' : q.bytes = min (sumB l) 1099511627776
theorem sumR_app (l m : List MV) : sumR (l ++ m) = sumR l + sumR m := by simp [sumR]
theorem sumR_one (x : MV) : sumR [x] = x.rows := by simp [sumR]
theorem sumR_nonneg {l : List MV} (h : ∀ y ∈ l, RtM y) : 0 ≤ sumR l := by
  induction l with
  | nil => simp [sumR]
  | cons x t ih =>
    have h1 := ih (fun y hy => h y (List.mem_cons_of_mem _ hy))
    have h2 := (h x (List.mem_cons_self ..)).ro1
    unfold sumR at *
    rw [List.map_cons, List.sum_cons]
    omega
theorem sum_perm {l m : List Int} (h : l.Perm m) : l.sum = m.sum := by
  induction h with
  | nil => rfl
  | cons x _ ih => rw [List.sum_cons, List.sum_cons, ih]
  | swap x y l =>
    simp only [List.sum_cons]
    omega
  | trans _ _ a b => rw [a, b]
theorem sumR_perm {l m : List MV} (h : l.Perm m) : sumR l = sumR m := sum_perm (h.map _)
theorem sumB_perm {l m : List MV} (h : l.Perm m) : sumB l = sumB m := sum_perm (h.map _)
theorem JnF.snoc {l : List MV} {q y : MV} (h : JnF l q) (hl : ∀ z ∈ l, RtM z) (hy : RtM y) : JnF (l ++ [y]) (bothM q y) := by
  have hR := sumR_nonneg hl
  have hB := sumB_nonneg (l := l) (fun z hz => (hl z hz).by1)
  have hy1 := hy.ro1
  have hy2 := hy.by1
  have all : ∀ (g : MV → Int) (a b : Int), (∀ z ∈ l, a ≤ g z) → (∀ z ∈ l ++ [y], min a (g y) ≤ g z) := fun g a b h z hz => by
    rcases List.mem_append.1 hz with hz | hz
    · have := h z hz; omega
    · rw [List.mem_singleton.1 hz]; omega
  have all2 : ∀ (g : MV → Int) (a b : Int), (∀ z ∈ l, g z ≤ a) → (∀ z ∈ l ++ [y], g z ≤ max a (g y)) := fun g a b h z hz => by
    rcases List.mem_append.1 hz with hz | hz
    · have := h z hz; omega
    · rw [List.mem_singleton.1 hz]; omega
  have ex : ∀ (g : MV → Int) (a : Int), (∃ z ∈ l, a = g z) → ∃ z ∈ l ++ [y], min a (g y) = g z := fun g a ⟨z, hz, e⟩ => by
    by_cases hle : a ≤ g y
    · exact ⟨z, List.mem_append_left _ hz, by omega⟩
    · exact ⟨y, by simp, by omega⟩
  have ex2 : ∀ (g : MV → Int) (a : Int), (∃ z ∈ l, a = g z) → ∃ z ∈ l ++ [y], max a (g y) = g z := fun g a ⟨z, hz, e⟩ => by
    by_cases hle : a ≤ g y
    · exact ⟨y, by simp, by omega⟩
    · exact ⟨z, List.mem_append_left _ hz, by omega⟩
  refine ⟨all (·.least) _ 0 h.le1, ex (·.least) _ h.le2, all2 (·.most) _ 0 h.mo1, ex2 (·.most) _ h.mo2, all (·.first) _ 0 h.fi1, ex (·.first) _ h.fi2, all2 (·.last) _ 0 h.la1, ex2 (·.last) _ h.la2, all2 (·.level) _ 0 h.lv1, ex2 (·.level) _ h.lv2, ?_, ?_⟩
  · rw [sumR_app, sumR_one]
    have := h.ro
    show min (q.rows + y.rows) _ = _
    omega
  · rw [sumB_app, sumB_one]
    have := h.by'
    show min (q.bytes + y.bytes) _ = _
    omega
theorem JnF.single {x : MV} (h : RtM x) : JnF [x] x := by
  have e : ∀ (g : MV → Int), ∃ y ∈ [x], g x = g y := fun g => ⟨x, by simp, rfl⟩
  have a1 : ∀ (g : MV → Int), ∀ y ∈ [x], g x ≤ g y := fun g y hy => by rw [List.mem_singleton.1 hy]; exact Int.le_refl _
  have a2 : ∀ (g : MV → Int), ∀ y ∈ [x], g y ≤ g x := fun g y hy => by rw [List.mem_singleton.1 hy]; exact Int.le_refl _
  have h1 := h.ro2
  have h2 := h.by2
  exact ⟨a1 (·.least), e (·.least), a2 (·.most), e (·.most), a1 (·.first), e (·.first), a2 (·.last), e (·.last), a2 (·.level), e (·.level), by rw [sumR_one]; omega, by rw [sumB_one]; omega⟩
theorem jnM_F {x : MV} (hx : RtM x) : ∀ (n : Nat) (t : List MV), t.length = n → (∀ y ∈ t, RtM y) → JnF (x :: t) (jnM x t) := by
  intro n
  induction n with
  | zero =>
    intro t ht _
    obtain rfl := List.eq_nil_of_length_eq_zero ht
    exact JnF.single hx
  | succ n ih =>
    intro t ht h
    obtain ⟨s, y, rfl⟩ : ∃ s y, t = s ++ [y] := ⟨t.dropLast, t.getLast (fun e => by rw [e] at ht; simp at ht), (List.dropLast_concat_getLast _).symm⟩
    rw [jnM_snoc]
    have hs := ih s (by simp at ht; exact ht) (fun z hz => h z (List.mem_append_left _ hz))
    have := hs.snoc (fun z hz => by
      rcases List.mem_cons.1 hz with rfl | hz
      · exact hx
      · exact h z (List.mem_append_left _ hz)) (h y (by simp))
    simpa using this
theorem JnF.one {l m : List MV} {q p : MV} (hq : JnF l q) (hp : JnF m p) (e : l.Perm m) (id : Int) : topM q id = topM p id := by
  have up : ∀ (g : MV → Int) (a b : Int), (∀ y ∈ l, a ≤ g y) → (∃ y ∈ l, a = g y) → (∀ y ∈ m, b ≤ g y) → (∃ y ∈ m, b = g y) → a = b := fun g a b h1 ⟨y, hy, ey⟩ h3 ⟨z, hz, ez⟩ => by
    have k1 := h1 z (e.symm.subset hz)
    have k2 := h3 y (e.subset hy)
    omega
  have dn : ∀ (g : MV → Int) (a b : Int), (∀ y ∈ l, g y ≤ a) → (∃ y ∈ l, a = g y) → (∀ y ∈ m, g y ≤ b) → (∃ y ∈ m, b = g y) → a = b := fun g a b h1 ⟨y, hy, ey⟩ h3 ⟨z, hz, ez⟩ => by
    have k1 := h1 z (e.symm.subset hz)
    have k2 := h3 y (e.subset hy)
    omega
  unfold topM
  rw [up (·.least) _ _ hq.le1 hq.le2 hp.le1 hp.le2, dn (·.most) _ _ hq.mo1 hq.mo2 hp.mo1 hp.mo2, up (·.first) _ _ hq.fi1 hq.fi2 hp.fi1 hp.fi2, dn (·.last) _ _ hq.la1 hq.la2 hp.la1 hp.la2, dn (·.level) _ _ hq.lv1 hq.lv2 hp.lv1 hp.lv2, hq.ro, hp.ro, hq.by', hp.by', sumR_perm e, sumB_perm e]
theorem fine_perm {l m : List MV} (e : l.Perm m) : fineM l = fineM m := by
  unfold fineM
  rw [decide_eq_decide]
  exact ⟨fun h => h.perm e.symm, fun h => h.perm e⟩
theorem join_perm {l m : List MV} (e : l.Perm m) (id : Int) : joinM l id = joinM m id := by
  cases hf : fineM l with
  | false => rw [join_none (.inr hf), join_none (.inr (by rw [← fine_perm e]; exact hf))]
  | true =>
    have hf2 : fineM m = true := by rw [← fine_perm e]; exact hf
    cases l with
    | nil =>
      obtain rfl := e.nil_eq
      rfl
    | cons x t =>
      cases m with
      | nil => exact absurd e.length_eq (by simp)
      | cons y s =>
        have hfl := fine_iff.1 hf
        have hfm := fine_iff.1 hf2
        have j1 := jnM_F (rt_iff.1 (hfl.1 x (by simp))) _ t rfl (fun z hz => rt_iff.1 (hfl.1 z (List.mem_cons_of_mem _ hz)))
        have j2 := jnM_F (rt_iff.1 (hfm.1 y (by simp))) _ s rfl (fun z hz => rt_iff.1 (hfm.1 z (List.mem_cons_of_mem _ hz)))
        have h1 := j1.one j2 e id
        cases hr : rightM (topM (jnM x t) id) with
        | true => rw [join_yes rfl hf hr, join_yes rfl hf2 (by rw [← h1]; exact hr), h1]
        | false => rw [join_no rfl hf hr, join_no rfl hf2 (by rw [← h1]; exact hr)]
/-- What PlannerJoins asks of what is joined. -/
structure JnA (l : List MV) (id : Int) (m : MV) : Prop where
  ne : l ≠ []
  fine : FinT l
  id' : m.id = id
  le : ∀ y ∈ l, m.least ≤ y.least
  mo : ∀ y ∈ l, y.most ≤ m.most
  fi : ∀ y ∈ l, m.first ≤ y.first
  la : ∀ y ∈ l, y.last ≤ m.last
  lv : ∀ y ∈ l, y.level < m.level
  ro : m.rows = sumR l
  by' : m.bytes = sumB l
  ros : sumR l < 1099511627776
  bys : sumB l < 1099511627776
theorem join_A {l : List MV} {id : Int} {m : MV} (h : joinM l id = (m, true)) : JnA l id m := by
  cases l with
  | nil => cases h
  | cons x t =>
    cases hf : fineM (x :: t) with
    | false => rw [join_none (.inr hf)] at h; cases h
    | true =>
      have hfl := fine_iff.1 hf
      have j := jnM_F (rt_iff.1 (hfl.1 x (by simp))) _ t rfl (fun z hz => rt_iff.1 (hfl.1 z (List.mem_cons_of_mem _ hz)))
      cases hr : rightM (topM (jnM x t) id) with
      | false => rw [join_no rfl hf hr] at h; cases h
      | true =>
        rw [join_yes rfl hf hr] at h
        simp only [Prod.mk.injEq, and_true] at h
        subst h
        have hrt := rt_iff.1 hr
        have h1 : (jnM x t).rows < 1099511627776 := hrt.ro2
        have h2 : (jnM x t).bytes < 1099511627776 := hrt.by2
        have h3 := j.ro
        have h4 := j.by'
        exact ⟨by simp, hfl, rfl, j.le1, j.mo1, j.fi1, j.la1, fun y hy => by have := j.lv1 y hy; show y.level < (jnM x t).level + 1; omega, by show (jnM x t).rows = _; omega, by show (jnM x t).bytes = _; omega, by omega, by omega⟩
theorem join_F {l : List MV} {id : Int} {m : MV} (h : joinM l id = (m, false)) : m = zeroM := by
  cases l with
  | nil => cases h; rfl
  | cons x t =>
    cases hf : fineM (x :: t) with
    | false => rw [join_none (.inr hf)] at h; cases h; rfl
    | true =>
      cases hr : rightM (topM (jnM x t) id) with
      | false => rw [join_no rfl hf hr] at h; cases h; rfl
      | true => rw [join_yes rfl hf hr] at h; cases h
theorem sumR_take {l : List MV} (h : ∀ y ∈ l, RtM y) (i : Nat) : 0 ≤ sumR (l.take i) ∧ sumR (l.take i) ≤ sumR l := by
  have e : sumR l = sumR (l.take i) + sumR (l.drop i) := by rw [← sumR_app, List.take_append_drop]
  have h1 := sumR_nonneg (l := l.drop i) (fun y hy => h y (List.mem_of_mem_drop hy))
  have h2 := sumR_nonneg (l := l.take i) (fun y hy => h y (List.mem_of_mem_take hy))
  omega
end Go.Icz
