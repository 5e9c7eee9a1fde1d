/-
  Packed and joined again and again: mathematics. No condition.
-/
import Derived.Test.YtoomhfjmcdbgkaaNjm
import Derived.Test.YtoomhfjmcdbgkaaNwh
namespace Go.Icz
theorem perm_of_ids {a s : List MV} (ha : (idsM a).Nodup) (hs : (idsM s).Nodup) (h : ∀ y, y ∈ s ↔ y ∈ a) : s.Perm a := by
  have nd : ∀ l : List MV, (idsM l).Nodup → l.Nodup := fun l h => by
    unfold idsM at h
    rw [List.nodup_iff_pairwise_ne] at h ⊢
    rw [List.pairwise_map] at h
    exact h.imp (fun h e => h (by rw [e]))
  exact (List.perm_ext_iff_of_nodup (nd s hs) (nd a ha)).2 h
theorem part_sum (g : MV → Int) (p : MV → Bool) : ∀ l : List MV, (l.map g).sum = ((l.filter p).map g).sum + ((l.filter (fun y => !p y)).map g).sum
  | [] => rfl
  | y :: t => by
    have ih := part_sum g p t
    rw [List.map_cons, List.sum_cons, List.filter_cons, List.filter_cons]
    cases h : p y
    · simp only [Bool.false_eq_true, if_false, Bool.not_false, if_true, List.map_cons, List.sum_cons]
      omega
    · simp only [Bool.not_true, Bool.false_eq_true, if_false, if_true, List.map_cons, List.sum_cons]
      omega
theorem part_len (p : MV → Bool) : ∀ l : List MV, l.length = (l.filter p).length + (l.filter (fun y => !p y)).length
  | [] => rfl
  | y :: t => by
    have ih := part_len p t
    rw [List.length_cons, List.filter_cons, List.filter_cons]
    cases h : p y
    · simp only [Bool.false_eq_true, if_false, Bool.not_false, if_true, List.length_cons]
      omega
    · simp only [Bool.not_true, Bool.false_eq_true, if_false, if_true, List.length_cons]
      omega
theorem PackOf.level {l : List MV} {f mb keep now : Int} {a : List MV} (h : PackOf l f mb keep now a) : ∀ y ∈ a, y.level < 20 := by
  rcases h with ⟨_, rfl⟩ | ⟨_, _, s, _, _, ha⟩
  · intro y hy
    cases hy
  · rcases ha with ⟨lv, i, h1, h2, h3, h4, rfl⟩ | ⟨_, rfl⟩
    · intro y hy
      have := h3.1 y hy
      omega
    · intro y hy
      cases hy
theorem PackOf.fan {l : List MV} {f mb keep now : Int} {a : List MV} (h : PackOf l f mb keep now a) (hne : a ≠ []) : 2 ≤ f ∧ (a.length : Int) = f := by
  rcases h with ⟨_, rfl⟩ | ⟨hpk, _, s, _, _, ha⟩
  · exact absurd rfl hne
  · unfold packsM at hpk
    rw [decide_eq_true_eq] at hpk
    rcases ha.len with h | h
    · exact absurd h hne
    · exact ⟨hpk.1, by rw [h]; omega⟩
/-- How the blocks stand, turn by turn. -/
structure EnI (x : List MV) (next R : Int) : Prop where
  fin : FinT x
  ids : ∀ y ∈ x, y.id < next
  rows : sumR x = R
  bys : sumB x ≤ 600000
  rs : R ≤ 60000
  nx : 1 ≤ next
def someM (x : List MV) (p : List Int) : List MV := x.filter (fun y => decide (y.id ∈ p))
def leftM (x : List MV) (p : List Int) : List MV := x.filter (fun y => !decide (y.id ∈ p))
theorem sumB_eq (l : List MV) : sumB l = (l.map (·.bytes)).sum := rfl
theorem sumR_eq (l : List MV) : sumR l = (l.map (·.rows)).sum := rfl
theorem EnI.step {x : List MV} {next R : Int} (h : EnI x next R) (hnx : next < 1099511627776) {f mb keep now : Int} {a : List MV} (ha : PackOf x f mb keep now a) (hne : a ≠ []) :
    ∃ M, joinM (someM x (idsM a)) next = (M, true) ∧ (someM x (idsM a)).length = a.length ∧ (a.length : Int) = f ∧ EnI (leftM x (idsM a) ++ [M]) (next + 1) R ∧ (leftM x (idsM a) ++ [M]).length < x.length := by
  have pf := ha.facts h.fin
  obtain ⟨hf2, hfl⟩ := ha.fan hne
  have hsub : (someM x (idsM a)).Sublist x := List.filter_sublist
  have hfs := h.fin.sub hsub
  have hfl2 := h.fin.sub (List.filter_sublist (p := fun y => !decide (y.id ∈ idsM a)) (l := x))
  have hmem : ∀ y, y ∈ someM x (idsM a) ↔ y ∈ a := fun y => by
    unfold someM
    rw [List.mem_filter, decide_eq_true_eq]
    constructor
    · rintro ⟨h1, h2⟩
      unfold idsM at h2
      obtain ⟨z, hz, e⟩ := List.mem_map.1 h2
      rw [← id_inj h.fin.2 (pf.mem z hz).1 h1 e]
      exact hz
    · intro hy
      exact ⟨(pf.mem y hy).1, List.mem_map.2 ⟨y, hy, rfl⟩⟩
  have hperm := perm_of_ids pf.nd hfs.2 hmem
  have hlen := hperm.length_eq
  have hRT : ∀ y ∈ x, RtM y := fun y hy => rt_iff.1 (h.fin.1 y hy)
  have hsR := part_sum (·.rows) (fun y => decide (y.id ∈ idsM a)) x
  have hsB := part_sum (·.bytes) (fun y => decide (y.id ∈ idsM a)) x
  change sumR x = sumR (someM x (idsM a)) + sumR (leftM x (idsM a)) at hsR
  change sumB x = sumB (someM x (idsM a)) + sumB (leftM x (idsM a)) at hsB
  have hlR := sumR_nonneg (l := leftM x (idsM a)) (fun y hy => hRT y (List.mem_filter.1 hy).1)
  have hlB := sumB_nonneg (l := leftM x (idsM a)) (fun y hy => (hRT y (List.mem_filter.1 hy).1).by1)
  have hpl := part_len (fun y => decide (y.id ∈ idsM a)) x
  change x.length = (someM x (idsM a)).length + (leftM x (idsM a)).length at hpl
  have hlv : ∀ y ∈ someM x (idsM a), y.level < 20 := fun y hy => ha.level y ((hmem y).1 hy)
  have hrs := h.rs
  have hro := h.rows
  have hbs := h.bys
  have hn1 := h.nx
  have hRS : ∀ y ∈ someM x (idsM a), RtM y := fun y hy => hRT y (hsub.subset hy)
  have hLid : ∀ y ∈ leftM x (idsM a), y.id < next := fun y hy => h.ids y (List.mem_filter.1 hy).1
  change FinT (leftM x (idsM a)) at hfl2
  generalize someM x (idsM a) = S at *
  generalize leftM x (idsM a) = L at *
  have hal : a.length ≠ 0 := fun e => hne (List.eq_nil_of_length_eq_zero e)
  cases S with
  | nil => exact absurd hlen.symm hal
  | cons s t =>
    have hff : fineM (s :: t) = true := fine_iff.2 hfs
    have j := jnM_F (hRS s (by simp)) _ t rfl (fun z hz => hRS z (List.mem_cons_of_mem _ hz))
    have hsB0 := sumB_nonneg (l := s :: t) (fun y hy => (hRS y hy).by1)
    have hsR1 : 1 ≤ sumR (s :: t) := by
      have h1 := sumR_nonneg (l := t) (fun y hy => hRS y (List.mem_cons_of_mem _ hy))
      have h2 := (hRS s (by simp)).ro1
      rw [sumR_eq, List.map_cons, List.sum_cons]
      rw [sumR_eq] at h1
      omega
    have hrow : (jnM s t).rows = sumR (s :: t) := by rw [j.ro]; omega
    have hbyt : (jnM s t).bytes = sumB (s :: t) := by rw [j.by']; omega
    have hrt : RtM (topM (jnM s t) next) := by
      obtain ⟨y1, m1, e1⟩ := j.le2
      obtain ⟨y2, m2, e2⟩ := j.mo2
      obtain ⟨y3, m3, e3⟩ := j.fi2
      obtain ⟨y4, m4, e4⟩ := j.la2
      obtain ⟨y5, m5, e5⟩ := j.lv2
      have r1 := hRS _ m1
      have r2 := hRS _ m2
      have r3 := hRS _ m3
      have r4 := hRS _ m4
      have r5 := hRS _ m5
      have l5 := hlv _ m5
      have q1 := j.le1 _ m2
      have q3 := j.fi1 _ m4
      obtain ⟨_, _, a1, a2, a3, a4, a5, a6, a7, a8, _, _, _, _, a9, _⟩ := r1
      obtain ⟨_, _, b1, b2, b3, b4, b5, b6, b7, b8, _, _, _, _, b9, _⟩ := r2
      obtain ⟨_, _, c1, c2, c3, c4, c5, c6, c7, c8, _, _, _, _, c9, _⟩ := r3
      obtain ⟨_, _, d1, d2, d3, d4, d5, d6, d7, d8, _, _, _, _, d9, _⟩ := r4
      have g9 := r5.lv1
      constructor <;> simp only [topM] <;> omega
    have hr : rightM (topM (jnM s t) next) = true := rt_iff.2 hrt
    refine ⟨topM (jnM s t) next, join_yes rfl hff hr, hlen, hfl, ⟨(fin_snoc _ _).2 ⟨hfl2, hr, fun hm => ?_⟩, fun y hy => ?_, ?_, ?_, hrs, by omega⟩, ?_⟩
    · unfold idsM at hm
      obtain ⟨y, hy, e⟩ := List.mem_map.1 hm
      have := hLid y hy
      change y.id = next at e
      omega
    · rcases List.mem_append.1 hy with hy | hy
      · have := hLid y hy; omega
      · rw [List.mem_singleton.1 hy]
        show next < next + 1
        omega
    · rw [sumR_app, sumR_one]
      show sumR L + (jnM s t).rows = R
      omega
    · rw [sumB_app, sumB_one]
      show sumB L + (jnM s t).bytes ≤ 600000
      omega
    · rw [List.length_append, List.length_singleton]
      omega
/-- The blocks as the law begins: their rows and bytes made small, their IDs in a row. -/
def prep (n : Nat) (y : MV) : MV := ⟨(n : Int) + 1, y.least, y.most, y.first, y.last, 1 + y.rows % 1000, y.bytes % 10000, y.level⟩
def prepM : Nat → List MV → List MV
  | _, [] => []
  | n, y :: t => prep n y :: prepM (n + 1) t
theorem prepM_len : ∀ (n : Nat) (l : List MV), (prepM n l).length = l.length
  | _, [] => rfl
  | n, y :: t => by rw [prepM, List.length_cons, List.length_cons, prepM_len (n + 1) t]
theorem prepM_get : ∀ (n : Nat) (l : List MV) (i : Nat) (h : i < l.length), (prepM n l)[i]'(by rw [prepM_len]; exact h) = prep (n + i) l[i]
  | n, y :: t, 0, _ => rfl
  | n, y :: t, i + 1, h => by
    have := prepM_get (n + 1) t i (by simpa using h)
    simp only [prepM, List.getElem_cons_succ]
    rw [this]
    congr 1
    omega
theorem prepM_mem (n : Nat) (l : List MV) {y : MV} (h : y ∈ prepM n l) : ∃ i, ∃ hi : i < l.length, y = prep (n + i) l[i] := by
  obtain ⟨i, hi, e⟩ := List.mem_iff_getElem.1 h
  rw [prepM_len] at hi
  exact ⟨i, hi, by rw [← e, prepM_get n l i hi]⟩
theorem prep_right {n : Nat} {y : MV} (h : RtM y) (hn : n < 1000) : RtM (prep n y) := by
  obtain ⟨_, _, a1, a2, a3, a4, a5, a6, a7, a8, _, _, _, _, a9, a10⟩ := h
  constructor <;> simp only [prep] <;> omega
theorem prepM_sums (l : List MV) : ∀ n, sumR (prepM n l) ≤ 1000 * l.length ∧ sumB (prepM n l) ≤ 10000 * l.length := by
  induction l with
  | nil => intro n; simp [prepM, sumR, sumB]
  | cons y t ih =>
    intro n
    obtain ⟨h1, h2⟩ := ih (n + 1)
    rw [sumR_eq, sumB_eq] at *
    simp only [prepM, List.map_cons, List.sum_cons, List.length_cons, prep]
    push_cast
    constructor <;> omega
theorem EnI.start {l : List MV} (h : FinT l) (hl : l.length ≤ 60) : EnI (prepM 0 l) ((l.length : Int) + 1) (sumR (prepM 0 l)) := by
  have hs := prepM_sums l 0
  refine ⟨⟨fun y hy => ?_, ?_⟩, fun y hy => ?_, rfl, by omega, by omega, by omega⟩
  · obtain ⟨i, hi, rfl⟩ := prepM_mem 0 l hy
    exact rt_iff.2 (prep_right (rt_iff.1 (h.1 _ (List.getElem_mem hi))) (by omega))
  · rw [List.nodup_iff_pairwise_ne, List.pairwise_iff_getElem]
    intro i j hi hj hij e
    unfold idsM at hi hj e
    rw [List.length_map, prepM_len] at hi hj
    rw [List.getElem_map, List.getElem_map, prepM_get 0 l i hi, prepM_get 0 l j hj] at e
    simp only [prep] at e
    omega
  · obtain ⟨i, hi, rfl⟩ := prepM_mem 0 l hy
    show ((0 + i : Nat) : Int) + 1 < (l.length : Int) + 1
    omega
end Go.Icz
