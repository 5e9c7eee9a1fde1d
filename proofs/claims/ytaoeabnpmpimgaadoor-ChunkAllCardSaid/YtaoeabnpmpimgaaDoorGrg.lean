/-
  The mathematics of chunk.Group: what is sorted by labels lies in runs of one list of labels each; a list in pieces. No conditions but those that each theorem names.
  The mathematics of chunk.Group's loop: how many entries are of the first one's labels; the chunks of what is left. No conditions but those that each theorem names.
  Lists of labels, rising, each once: one more put in its place; the mathematics of the reference's Group. No conditions but those that each theorem names.
  'append', and where the row lies behind it; rows of one type beside rows of another. Conditions: those that each theorem names.
  The chunk that the reference's Group fills, and those that it has: what stays while one of them grows. No conditions but those that each theorem names.
-/
import Derived.Test.YtaoeabnpmpimgaaDoorLsm
import Derived.Test.YtaoeabnpmpimgaaDoorHsn
import Derived.Test.YtaoeabnpmpimgaaDoorRefSrt
import Derived.Test.YtaoeabnpmpimgaaDoorLsl
import Derived.Test.YtaoeabnpmpimgaaDoorLso
import Derived.Maps.AppendAt
section
namespace Go.Icz
open Go.RowKit
/-- Two lists that rise strictly and have the same members are one. -/
theorem strict_one {lt : List Lab → List Lab → Prop} (hir : ∀ x, ¬ lt x x) (has : ∀ x y, lt x y → ¬ lt y x) : ∀ (a b : List (List Lab)), a.Pairwise lt → b.Pairwise lt → (∀ s, s ∈ a ↔ s ∈ b) → a = b
  | [], [], _, _, _ => rfl
  | [], y :: t, _, _, h => absurd ((h y).2 (by simp)) (by simp)
  | x :: s, [], _, _, h => absurd ((h x).1 (by simp)) (by simp)
  | x :: s, y :: t, ha, hb, h => by
    rw [List.pairwise_cons] at ha hb
    have e : x = y := by
      rcases List.mem_cons.1 ((h x).1 (by simp)) with e | h1
      · exact e
      · rcases List.mem_cons.1 ((h y).2 (by simp)) with e | h2
        · exact e.symm
        · exact absurd (ha.1 y h2) (has _ _ (hb.1 x h1))
    subst e
    rw [strict_one hir has s t ha.2 hb.2 (fun z => ⟨fun hz => ?_, fun hz => ?_⟩)]
    · rcases List.mem_cons.1 ((h z).1 (List.mem_cons_of_mem _ hz)) with e | h1
      · subst e; exact absurd (ha.1 _ hz) (hir _)
      · exact h1
    · rcases List.mem_cons.1 ((h z).2 (List.mem_cons_of_mem _ hz)) with e | h1
      · subst e; exact absurd (hb.1 _ hz) (hir _)
      · exact h1
/-- Labels, rising. -/
def ltS (x y : List Lab) : Prop := cmpL x y < 0
theorem ltS_ir (x : List Lab) : ¬ ltS x x := by
  unfold ltS
  rw [(listCmp.eq x x).2 rfl]
  omega
theorem ltS_as (x y : List Lab) (h : ltS x y) : ¬ ltS y x := by
  unfold ltS at *
  have := listCmp.neg x y
  omega
theorem ltS_tr (x y z : List Lab) (h1 : ltS x y) (h2 : ¬ ltS z y) : ltS x z := by
  unfold ltS at *
  have n1 := listCmp.neg y z
  have h3 := listCmp.le x y z (by omega) (by omega)
  rcases Int.lt_or_le (cmpL x z) 0 with h4 | h4
  · exact h4
  · have e := (listCmp.eq x z).1 (by omega)
    subst e
    have := listCmp.neg x y
    omega
/-- The entries of one list of labels. -/
def ofS (s : List Lab) (l : List Ent) : List Ent := l.filter (fun x => decide (x.labs = s))
/-- What begins a list, of one list of labels each. -/
def runs : Nat → List Ent → List (List Lab × List Ent)
  | 0, _ => []
  | _ + 1, [] => []
  | k + 1, x :: t => (x.labs, x :: t.takeWhile (fun y => decide (y.labs = x.labs))) :: runs k (t.dropWhile (fun y => decide (y.labs = x.labs)))
theorem mem_takeWhile {α : Type} {q : α → Bool} : ∀ {l : List α} {x : α}, x ∈ l.takeWhile q → q x = true
  | a :: t, x, h => by
    rw [List.takeWhile_cons] at h
    split at h
    · next ha =>
      rcases List.mem_cons.1 h with rfl | h
      · exact ha
      · exact mem_takeWhile h
    · cases h
theorem dropWhile_len {α : Type} (p : α → Bool) (l : List α) : (l.dropWhile p).length ≤ l.length := (List.dropWhile_suffix p).length_le
theorem runs_enough : ∀ (k k' : Nat) (l : List Ent), l.length ≤ k → l.length ≤ k' → runs k l = runs k' l
  | 0, 0, _, _, _ => rfl
  | 0, k' + 1, l, h, _ => by
    obtain rfl := List.eq_nil_of_length_eq_zero (Nat.le_zero.1 h); rfl
  | k + 1, 0, l, _, h => by
    obtain rfl := List.eq_nil_of_length_eq_zero (Nat.le_zero.1 h); rfl
  | k + 1, k' + 1, [], _, _ => rfl
  | k + 1, k' + 1, x :: t, h, h' => by
    have := dropWhile_len (fun y : Ent => decide (y.labs = x.labs)) t
    simp only [List.length_cons] at h h'
    unfold runs
    rw [runs_enough k k' _ (by omega) (by omega)]
/-- The order of entries by their labels, of entries alone. -/
def ltM (x y : Ent) : Bool := decide (cmpEL x y < 0)
theorem ltM_iff (x y : Ent) : ltM x y = true ↔ ltS x.labs y.labs := by unfold ltM cmpEL ltS; simp
theorem ltM_eqv (x y : Ent) : eqv ltM x y = decide (y.labs = x.labs) := by
  unfold eqv ltM cmpEL
  have h1 := listCmp.neg x.labs y.labs
  have h2 := listCmp.eq x.labs y.labs
  by_cases h : y.labs = x.labs
  · have := h2.2 h.symm
    rw [decide_eq_true h, h1, this]
    rfl
  · have h3 : cmpL x.labs y.labs ≠ 0 := fun e => h ((h2.1 e).symm)
    rw [decide_eq_false h, h1]
    rcases Int.lt_or_le (cmpL x.labs y.labs) 0 with h4 | h4
    · simp [h4]
    · have : 0 < cmpL x.labs y.labs := by omega
      simp [this]
theorem stableM_of {X M : List EV} (h : StableOf ltEL X M) : StableOf ltM (X.map (·.1)) (M.map (·.1)) := by
  refine ⟨List.pairwise_map.2 h.1, fun x => ?_⟩
  rw [List.filter_map, List.filter_map]
  have := h.2 (x, none, 0)
  exact congrArg (List.map (·.1)) this
/-- Sorted by labels: the runs rise, and have all of their labels. -/
theorem runs_sorted : ∀ (k : Nat) (T : List Ent), T.length ≤ k → T.Pairwise (fun x y => ltM y x = false) →
    ((runs k T).map (·.1)).Pairwise ltS ∧ (∀ s, s ∈ (runs k T).map (·.1) ↔ ∃ x ∈ T, x.labs = s) ∧ ∀ p ∈ runs k T, p.2 = ofS p.1 T
  | 0, T, h, _ => by
    obtain rfl := List.eq_nil_of_length_eq_zero (Nat.le_zero.1 h)
    exact ⟨by simp [runs], by simp [runs], by simp [runs]⟩
  | k + 1, [], _, _ => ⟨by simp [runs], by simp [runs], by simp [runs]⟩
  | k + 1, x :: t, h, hp => by
    have hd := dropWhile_len (fun y : Ent => decide (y.labs = x.labs)) t
    simp only [List.length_cons] at h
    rw [List.pairwise_cons] at hp
    have hsplit : t = t.takeWhile (fun y => decide (y.labs = x.labs)) ++ t.dropWhile (fun y => decide (y.labs = x.labs)) := (List.takeWhile_append_dropWhile).symm
    have ht : ∀ y ∈ t.takeWhile (fun y => decide (y.labs = x.labs)), y.labs = x.labs := fun y hy => by simpa using mem_takeWhile hy
    have hsub : (t.dropWhile (fun y => decide (y.labs = x.labs))).Pairwise (fun x y => ltM y x = false) := hp.2.sublist (List.dropWhile_suffix _).sublist
    -- what stands behind the run lies above it
    have hab : ∀ y ∈ t.dropWhile (fun y => decide (y.labs = x.labs)), ltS x.labs y.labs := by
      generalize hD : t.dropWhile (fun y => decide (y.labs = x.labs)) = D at *
      cases D with
      | nil => simp
      | cons z D =>
        have hz : ¬ z.labs = x.labs := by
          have := List.head?_dropWhile_not (fun y : Ent => decide (y.labs = x.labs)) t
          rw [hD] at this
          simpa using this
        have hzt : z ∈ t := by rw [hsplit]; simp
        have h1 := hp.1 z hzt
        have hxz : ltS x.labs z.labs := by
          unfold ltS
          have hn := listCmp.neg x.labs z.labs
          have he := listCmp.eq x.labs z.labs
          have h2 : ¬ ltS z.labs x.labs := fun h3 => by rw [(ltM_iff z x).2 h3] at h1; cases h1
          unfold ltS at h2
          rcases Int.lt_or_le (cmpL x.labs z.labs) 0 with h4 | h4
          · exact h4
          · exact absurd (he.1 (by omega)).symm hz
        intro y hy
        rcases List.mem_cons.1 hy with e | hy
        · rw [e]; exact hxz
        · have h5 := (List.pairwise_cons.1 hsub).1 y hy
          refine ltS_tr _ _ _ hxz (fun h6 => ?_)
          rw [(ltM_iff y z).2 h6] at h5
          cases h5
    obtain ⟨i1, i2, i3⟩ := runs_sorted k (t.dropWhile (fun y => decide (y.labs = x.labs))) (by omega) hsub
    unfold runs
    refine ⟨?_, fun s => ?_, fun p hm => ?_⟩
    · rw [List.map_cons, List.pairwise_cons]
      refine ⟨fun s hs => ?_, i1⟩
      obtain ⟨y, hy, rfl⟩ := (i2 s).1 hs
      exact hab y hy
    · rw [List.map_cons, List.mem_cons, i2]
      constructor
      · rintro (rfl | ⟨y, hy, rfl⟩)
        · exact ⟨x, by simp, rfl⟩
        · exact ⟨y, by rw [List.mem_cons, hsplit, List.mem_append]; exact .inr (.inr hy), rfl⟩
      · rintro ⟨y, hy, rfl⟩
        rcases List.mem_cons.1 hy with rfl | hy
        · exact .inl rfl
        · rw [hsplit] at hy
          rcases List.mem_append.1 hy with hy | hy
          · exact .inl (ht y hy)
          · exact .inr ⟨y, hy, rfl⟩
    · rcases List.mem_cons.1 hm with rfl | hm
      · simp only
        unfold ofS
        rw [List.filter_cons, if_pos (by simp)]
        congr 1
        conv => rhs; rw [hsplit]
        rw [List.filter_append, List.filter_eq_self.2 (fun y hy => by simpa using ht y hy), List.filter_eq_nil_iff.2 (fun y hy => ?_), List.append_nil]
        intro e
        have h7 := hab y hy
        rw [of_decide_eq_true e] at h7
        exact ltS_ir _ h7
      · rw [i3 p hm]
        have h8 : ltS x.labs p.1 := by
          obtain ⟨y, hy, e⟩ := (i2 p.1).1 (List.mem_map.2 ⟨p, hm, rfl⟩)
          rw [← e]; exact hab y hy
        have hne : ¬ x.labs = p.1 := fun e => ltS_ir _ (e ▸ h8)
        unfold ofS
        rw [List.filter_cons, if_neg (by simpa using hne)]
        conv => rhs; rw [hsplit]
        rw [List.filter_append]
        have e0 : List.filter (fun x => decide (x.labs = p.1)) (t.takeWhile (fun y => decide (y.labs = x.labs))) = [] := List.filter_eq_nil_iff.2 (fun y hy e => hne ((ht y hy).symm.trans (of_decide_eq_true e)))
        rw [e0, List.nil_append]
/-- The runs of what is sorted by labels, said by the labels alone. -/
theorem runs_sets {S T : List Ent} (hT : StableOf ltM S T) {sets : List (List Lab)} (h1 : sets.Pairwise ltS) (h2 : ∀ s, s ∈ sets ↔ ∃ x ∈ S, x.labs = s) (hm : ∀ x, x ∈ T ↔ x ∈ S) :
    runs T.length T = sets.map (fun s => (s, ofS s S)) := by
  obtain ⟨r1, r2, r3⟩ := runs_sorted T.length T (Nat.le_refl _) hT.1
  have he : (runs T.length T).map (·.1) = sets := strict_one ltS_ir ltS_as _ _ r1 h1 (fun s => by
    rw [r2, h2]
    exact ⟨fun ⟨x, hx, e⟩ => ⟨x, (hm x).1 hx, e⟩, fun ⟨x, hx, e⟩ => ⟨x, (hm x).2 hx, e⟩⟩)
  have hof : ∀ p ∈ runs T.length T, p = (p.1, ofS p.1 S) := fun p hp => by
    have e1 := r3 p hp
    obtain ⟨x, hx, e2⟩ := (r2 p.1).1 (List.mem_map.2 ⟨p, hp, rfl⟩)
    have e3 := hT.2 x
    have e4 : (eqv ltM x) = (fun y => decide (y.labs = p.1)) := by
      funext y
      rw [ltM_eqv, e2]
    rw [e4] at e3
    exact Prod.ext rfl (e1.trans e3)
  rw [← he, List.map_map]
  conv => lhs; rw [← List.map_id (runs T.length T)]
  exact List.map_congr_left (fun p hp => hof p hp)
/-- A list in pieces: full ones, and a last one. -/
theorem pieces_full {α : Type} {n : Nat} (c : List α) (hc1 : 1 ≤ c.length) (hc2 : c.length ≤ n) : ∀ (P : List (List α)) (A : List α), (∀ p ∈ P, p.length = n) →
    (posL n (A ++ P.flatten ++ c).length A.length).map (pcAt (A ++ P.flatten ++ c)) = P ++ [c]
  | [], A, _ => by
    have hlen : (A ++ ([] : List (List α)).flatten ++ c).length = A.length + c.length := by simp
    rw [hlen, posL_cons (by omega) (by omega), posL_nil (by omega)]
    have : min n (A.length + c.length - A.length) = c.length := by omega
    rw [this]
    simp [pcAt]
  | p :: P, A, h => by
    have hp := h p (by simp)
    have ih := pieces_full c hc1 hc2 P (A ++ p) (fun q hq => h q (by simp [hq]))
    have e1 : A ++ p ++ P.flatten ++ c = A ++ (p :: P).flatten ++ c := by simp [List.append_assoc]
    rw [e1, show (A ++ p).length = A.length + p.length from List.length_append, hp] at ih
    have hlen : (A ++ (p :: P).flatten ++ c).length = A.length + n + P.flatten.length + c.length := by simp [hp]; omega
    rw [posL_cons (by omega) (by omega), List.map_cons, ih]
    have hmin : min n ((A ++ (p :: P).flatten ++ c).length - A.length) = n := by omega
    rw [hmin]
    have : pcAt (A ++ (p :: P).flatten ++ c) (A.length, n) = p := by
      unfold pcAt
      simp [← hp]
    rw [this]
    rfl
end Go.Icz
end
section
namespace Go.Icz
open Go.RowKit
def rowOfE (x : Ent) : CRow := ⟨x.seq, x.time, x.line⟩
theorem rowOf_E (X : List EV) : X.map rowOf = (X.map (·.1)).map rowOfE := by rw [List.map_map]; rfl
/-- Runs as chunks of at most 1000 rows. -/
def chsOf (R : List (List Lab × List Ent)) : List (List Lab × List CRow) := R.flatMap (fun p => cutC p.1 (p.2.map rowOfE) 1000)
theorem zip_run : ∀ (t : List EV) (x : EV), ((((x :: t).zip t).takeWhile eqP).length) = (t.takeWhile (fun y => decide (y.1.labs = x.1.labs))).length
  | [], x => by simp
  | y :: s, x => by
    rw [List.zip_cons_cons, List.takeWhile_cons, List.takeWhile_cons]
    have he : eqP (x, y) = decide (y.1.labs = x.1.labs) := by
      unfold eqP
      have := listCmp.eq x.1.labs y.1.labs
      simp only
      by_cases h : y.1.labs = x.1.labs
      · rw [decide_eq_true h, decide_eq_true (this.2 h.symm)]
      · rw [decide_eq_false h, decide_eq_false (fun e => h (this.1 e).symm)]
    rw [he]
    by_cases h : y.1.labs = x.1.labs
    · rw [decide_eq_true h]
      simp only [if_true, List.length_cons]
      rw [zip_run s y, h]
    · rw [decide_eq_false h]
      simp
theorem strN_cons (x : EV) (t : List EV) : strN (x :: t) = 1 + (t.takeWhile (fun y => decide (y.1.labs = x.1.labs))).length := by
  unfold strN prs
  rw [List.drop_zero, Nat.zero_add, List.drop_one, List.tail_cons, zip_run]
theorem takeWhile_map {α β : Type} (f : α → β) (q : β → Bool) : ∀ l : List α, (l.map f).takeWhile q = (l.takeWhile (fun x => q (f x))).map f
  | [] => rfl
  | a :: t => by
    rw [List.map_cons, List.takeWhile_cons, List.takeWhile_cons]
    split
    · rw [List.map_cons, takeWhile_map f q t]
    · rfl
theorem dropWhile_map {α β : Type} (f : α → β) (q : β → Bool) : ∀ l : List α, (l.map f).dropWhile q = (l.dropWhile (fun x => q (f x))).map f
  | [] => rfl
  | a :: t => by
    rw [List.map_cons, List.dropWhile_cons, List.dropWhile_cons]
    split
    · exact dropWhile_map f q t
    · rfl
theorem take_run {α : Type} (q : α → Bool) : ∀ l : List α, l.take (l.takeWhile q).length = l.takeWhile q ∧ l.drop (l.takeWhile q).length = l.dropWhile q
  | [] => ⟨rfl, rfl⟩
  | a :: t => by
    have ih := take_run q t
    rw [List.takeWhile_cons, List.dropWhile_cons]
    split
    · simp only [List.length_cons, List.take_succ_cons, List.drop_succ_cons]
      exact ⟨by rw [ih.1], ih.2⟩
    · simp
/-- One run taken off. -/
theorem runs_step (x : EV) (t : List EV) : strN (x :: t) ≤ (x :: t).length ∧ 1 ≤ strN (x :: t) ∧
    chsOf (runs (x :: t).length ((x :: t).map (·.1))) = cutC x.1.labs (((x :: t).take (strN (x :: t))).map rowOf) 1000 ++ chsOf (runs ((x :: t).drop (strN (x :: t))).length (((x :: t).drop (strN (x :: t))).map (·.1))) := by
  have h := take_run (fun y : EV => decide (y.1.labs = x.1.labs)) t
  have hle : (t.takeWhile (fun y => decide (y.1.labs = x.1.labs))).length ≤ t.length := (List.takeWhile_prefix _).length_le
  rw [strN_cons]
  refine ⟨by simp only [List.length_cons]; omega, by omega, ?_⟩
  rw [Nat.add_comm 1, List.take_succ_cons, List.drop_succ_cons, h.1, h.2, List.map_cons, List.length_cons]
  conv => lhs; unfold runs
  unfold chsOf
  rw [List.flatMap_cons]
  have e1 : ((t.map (·.1)).takeWhile (fun y : Ent => decide (y.labs = x.1.labs))) = (t.takeWhile (fun y => decide (y.1.labs = x.1.labs))).map (·.1) := takeWhile_map (·.1) (fun y : Ent => decide (y.labs = x.1.labs)) t
  have e2 : ((t.map (·.1)).dropWhile (fun y : Ent => decide (y.labs = x.1.labs))) = (t.dropWhile (fun y => decide (y.1.labs = x.1.labs))).map (·.1) := dropWhile_map (·.1) (fun y : Ent => decide (y.labs = x.1.labs)) t
  have e3 := dropWhile_len (fun y : EV => decide (y.1.labs = x.1.labs)) t
  simp only at e1 e2 ⊢
  rw [e1, e2, List.map_cons, List.map_map]
  congr 1
  rw [runs_enough _ ((t.dropWhile (fun y => decide (y.1.labs = x.1.labs))).length) _ (by rw [List.length_map]; omega) (by rw [List.length_map]; omega)]
theorem cutC_len (s : List Lab) (r : List CRow) (n : Nat) : (cutC s r n).length ≤ r.length := by
  unfold cutC
  rw [List.length_map]
  have := posL_len n r.length 0
  omega
/-- The entries that may be, of each number the first. -/
def gdStepE (acc : List Ent) (x : Ent) : List Ent := if entR x = true ∧ ¬ x.seq ∈ acc.map (·.seq) then acc ++ [x] else acc
def gd (l : List Ent) : List Ent := l.foldl gdStepE []
theorem gd_of (X : List EV) : (gdV X).map (·.1) = gd (X.map (·.1)) := by
  suffices h : ∀ (X acc : List EV), (X.foldl gdStep acc).map (·.1) = (X.map (·.1)).foldl gdStepE (acc.map (·.1)) by exact h X []
  intro X
  induction X with
  | nil => intro acc; rfl
  | cons x t ih =>
    intro acc
    rw [List.foldl_cons, ih, List.map_cons, List.foldl_cons]
    congr 1
    unfold gdStep gdStepE
    rw [List.map_map]
    show List.map (·.1) (if entR x.1 = true ∧ ¬ x.1.seq ∈ acc.map (·.1.seq) then acc ++ [x] else acc) = if entR x.1 = true ∧ ¬ x.1.seq ∈ acc.map ((·.seq) ∘ (·.1)) then acc.map (·.1) ++ [x.1] else acc.map (·.1)
    have e : (acc.map ((·.seq) ∘ (·.1)) : List Int) = acc.map (·.1.seq) := rfl
    rw [e]
    by_cases hc : entR x.1 = true ∧ ¬ x.1.seq ∈ acc.map (·.1.seq)
    · rw [if_pos hc, if_pos hc, List.map_append]; rfl
    · rw [if_neg hc, if_neg hc]
/-- What chunk.Group answers, of entries. -/
def GrOf (l : List Ent) (C : List (List Lab × List CRow)) : Prop := ∃ S T, StableOf ltT (gd l) S ∧ S.length = (gd l).length ∧ StableOf ltM S T ∧ T.length = S.length ∧ C = chsOf (runs T.length T)
end Go.Icz
end
section
namespace Go.Icz
open Go.RowKit
/-- A list of labels in a row of such. -/
structure LR where
  A : Option Addr
  c : Nat
  l : List Lab
def KLs : Kd LR where
  e := 32
  z := 1
  enc := fun r => [.slice r.A r.l.length r.c]
  len := fun _ => rfl
  pos := by decide
  one := by
    intro x u hu
    simp only [List.mem_cons, List.not_mem_nil, or_false] at hu
    rcases hu with rfl
    rfl
/-- The lists of labels of entries. -/
def SetsOf (L : List LR) (Y : List EV) : Prop := (L.map (·.l)).Pairwise ltS ∧ ∀ s, s ∈ L.map (·.l) ↔ ∃ y ∈ Y, y.1.labs = s
theorem SetsOf.ins {L : List LR} {Y : List EV} {x : EV} {k : Nat} (h : SetsOf L Y) (hk : k ≤ L.length) (hA : ∀ j (hj : j < L.length), k ≤ j → ltS x.1.labs L[j].l) (hB : ∀ (_h0 : 0 < k) (hj : k - 1 < L.length), ltS L[k - 1].l x.1.labs) (r : LR) (hr : r.l = x.1.labs) :
    SetsOf (L.take k ++ r :: L.drop k) (Y ++ [x]) := by
  obtain ⟨h1, h2⟩ := h
  have hsp : L.map (·.l) = (L.take k).map (·.l) ++ (L.drop k).map (·.l) := by rw [← List.map_append, List.take_append_drop]
  have h1' := h1
  rw [hsp, List.pairwise_append] at h1'
  constructor
  · rw [List.map_append, List.map_cons, List.pairwise_append, List.pairwise_cons]
    refine ⟨h1'.1, ⟨fun q hq => ?_, h1'.2.1⟩, fun p hp q hq => ?_⟩
    · obtain ⟨y, hy, rfl⟩ := List.mem_map.1 hq
      obtain ⟨j, hj, rfl⟩ := List.mem_iff_getElem.1 hy
      rw [List.length_drop] at hj
      rw [List.getElem_drop, hr]
      exact hA (k + j) (by omega) (by omega)
    · rcases List.mem_cons.1 hq with rfl | hq
      · obtain ⟨y, hy, rfl⟩ := List.mem_map.1 hp
        obtain ⟨j, hj, rfl⟩ := List.mem_iff_getElem.1 hy
        rw [List.length_take] at hj
        rw [List.getElem_take, hr]
        have hl := hB (by omega) (by omega)
        rcases Nat.lt_or_ge j (k - 1) with h3 | h3
        · have h4 := List.pairwise_iff_getElem.1 h1 j (k - 1) (by rw [List.length_map]; omega) (by rw [List.length_map]; omega) h3
          rw [List.getElem_map, List.getElem_map] at h4
          exact ltS_tr _ _ _ h4 (ltS_as _ _ hl)
        · have : j = k - 1 := by omega
          subst this
          exact hl
      · exact h1'.2.2 p hp q hq
  · intro s
    rw [List.map_append, List.map_cons, List.mem_append, List.mem_cons]
    have h3 := h2 s
    rw [hsp, List.mem_append] at h3
    constructor
    · rintro (h4 | h4 | h4)
      · obtain ⟨y, hy, e⟩ := h3.1 (.inl h4); exact ⟨y, List.mem_append.2 (.inl hy), e⟩
      · exact ⟨x, by simp, by rw [h4, hr]⟩
      · obtain ⟨y, hy, e⟩ := h3.1 (.inr h4); exact ⟨y, List.mem_append.2 (.inl hy), e⟩
    · rintro ⟨y, hy, e⟩
      rcases List.mem_append.1 hy with hy | hy
      · rcases h3.2 ⟨y, hy, e⟩ with h5 | h5
        · exact .inl h5
        · exact .inr (.inr h5)
      · obtain rfl := List.mem_singleton.1 hy
        exact .inr (.inl (by rw [hr, e]))
theorem SetsOf.same {L : List LR} {Y : List EV} {x : EV} (h : SetsOf L Y) {j : Nat} (hj : j < L.length) (he : x.1.labs = L[j].l) : SetsOf L (Y ++ [x]) := by
  refine ⟨h.1, fun s => ?_⟩
  rw [h.2 s]
  constructor
  · rintro ⟨y, hy, e⟩; exact ⟨y, List.mem_append.2 (.inl hy), e⟩
  · rintro ⟨y, hy, e⟩
    rcases List.mem_append.1 hy with hy | hy
    · exact ⟨y, hy, e⟩
    · obtain rfl := List.mem_singleton.1 hy
      exact (h.2 s).1 (List.mem_map.2 ⟨L[j], List.getElem_mem hj, by rw [← he, e]⟩)
theorem Kd.Rd.far {α : Type} {K : Kd α} {w w' : World} {row : Option Nat} (hg : w.grownBy w' row) {b off n c : Nat} {m : List α} (h : K.Rd w (.slice (some ⟨b, off, none⟩) n c) m) (hb : some b ≠ row) : K.Rd w' (.slice (some ⟨b, off, none⟩) n c) m := by
  obtain ⟨A, c', hv, hc, hr⟩ := h
  refine ⟨A, c', hv, hc, fun h0 => ?_⟩
  obtain ⟨b', off', hA, hlt, hcell⟩ := hr h0
  subst hA
  injection hv with e1 e2 e3
  injection e1 with e1
  injection e1 with e1 e4
  subst e1
  refine ⟨b, off', rfl, Nat.lt_of_lt_of_le hlt hg.size, fun j u hu => ?_⟩
  exact (World.cell?_of_block (hg.block b hlt hb)).trans (hcell j u hu)
/-- The rows of a list of labels, dealt to pieces: full ones, and one that is under way. -/
def PcInv (s : List Lab) (F : List Ent) (out : List (List Lab × List CRow)) (c : List CRow) : Prop := ∃ P : List (List CRow), out = P.map (fun p => (s, p)) ∧ F.map rowOfE = P.flatten ++ c ∧ (∀ p ∈ P, p.length = 1000) ∧ c.length ≤ 1000 ∧ (c = [] → P = [])
theorem PcInv.nil (s : List Lab) : PcInv s [] [] [] := ⟨[], rfl, rfl, by simp, by simp, fun _ => rfl⟩
theorem PcInv.more {s : List Lab} {F : List Ent} {out : List (List Lab × List CRow)} {c : List CRow} (h : PcInv s F out c) (x : Ent) (hc : c.length < 1000) : PcInv s (F ++ [x]) out (c ++ [rowOfE x]) := by
  obtain ⟨P, h1, h2, h3, h4, h5⟩ := h
  exact ⟨P, h1, by rw [List.map_append, h2, List.append_assoc]; rfl, h3, by simp; omega, fun h => absurd h (by simp)⟩
theorem PcInv.full {s : List Lab} {F : List Ent} {out : List (List Lab × List CRow)} {c : List CRow} (h : PcInv s F out c) (x : Ent) (hc : c.length = 1000) : PcInv s (F ++ [x]) (out ++ [(s, c)]) [rowOfE x] := by
  obtain ⟨P, h1, h2, h3, h4, h5⟩ := h
  refine ⟨P ++ [c], by rw [h1, List.map_append]; rfl, by rw [List.map_append, h2, List.flatten_append]; simp, fun p hp => ?_, by simp, fun h => absurd h (by simp)⟩
  rcases List.mem_append.1 hp with hp | hp
  · exact h3 p hp
  · obtain rfl := List.mem_singleton.1 hp; exact hc
theorem PcInv.done {s : List Lab} {F : List Ent} {out : List (List Lab × List CRow)} {c : List CRow} (h : PcInv s F out c) (hF : F ≠ []) : out ++ [(s, c)] = cutC s (F.map rowOfE) 1000 := by
  obtain ⟨P, h1, h2, h3, h4, h5⟩ := h
  have hc : 1 ≤ c.length := by
    rcases Nat.eq_zero_or_pos c.length with h0 | h0
    · have e := List.eq_nil_of_length_eq_zero h0
      rw [h5 e, e] at h2
      exact absurd (List.map_eq_nil_iff.1 h2) hF
    · exact h0
  have hp := pieces_full (n := 1000) c hc h4 P [] h3
  rw [List.nil_append, List.length_nil] at hp
  unfold cutC
  rw [h2]
  have e : (posL 1000 (P.flatten ++ c).length 0).map (fun p => (s, pcAt (P.flatten ++ c) p)) = ((posL 1000 (P.flatten ++ c).length 0).map (pcAt (P.flatten ++ c))).map (fun p => (s, p)) := by rw [List.map_map]; rfl
  rw [e, hp, h1, List.map_append]
  rfl
theorem ofS_snoc (s : List Lab) (F : List Ent) (x : Ent) : ofS s (F ++ [x]) = if x.labs = s then ofS s F ++ [x] else ofS s F := by
  unfold ofS
  rw [List.filter_append, List.filter_cons]
  by_cases h : x.labs = s
  · rw [if_pos (by simpa using h), if_pos h]; rfl
  · rw [if_neg (by simpa using h), if_neg h]; simp
end Go.Icz
end
section
namespace Go.Icz
open Go.RowKit
theorem Kd.wp_app1A {α : Type} {K : Kd α} {P : Program} {ops : Array Oper} {rest : List Oper} {o : Oper} {a : Act} {Q : Exit → Act → World → Prop} {w : World} (hgd : o.guard = none) (s x : Operand) (t : TypeId)
    (ho : o.op = .call { callee := .builtin .append, args := #[s, x], argTypes := #[t, t] }) (ht : P.underlying t = some (.slice K.e)) {zv : Value} {by' : Nat} (info : (P.info? K.e).map (fun i => (i.zero, i.size, i.bytes)) = some (some zv, K.z, by')) (hzs : zv.cells.size = K.z)
    (B : Nat) (v : Value) (l : List α) (b : α) (hs : a.eval s = v) (hown : K.Own w B v l) {n : Nat} (hn : w.heap.size = n) (hx : a.eval x = .slice (some ⟨n, 0, none⟩) 1 1) {cs : Array Value} (hcs : cs = (K.enc b).toArray)
    (hmax : l.length + 1 ≤ maxLen) (hlen : (l.length + 1) * by' ≤ 140737488355328) (hB : B ≤ w.heap.size)
    (h : ∀ v' w', K.Own w' B v' (l ++ [b]) → Below B w w' → (w.alloc (.cells cs K.e)).grownBy w' v.ownBlock → (v'.ownBlock = v.ownBlock ∨ v'.ownBlock = some (n + 1)) → wpList P ops Q rest (a.put o.dst v') w') :
    wpList P ops Q (o :: rest) a (w.alloc (.cells cs K.e)) := by
  subst hn hcs
  have e : K.cells [b] = K.enc b := by simp [Kd.cells]
  have r := (Kd.Own.lit (K := K) (B := w.heap.size) w [b] (by show 1 ≤ maxLen; decide) (Nat.le_refl _)).rd
  rw [e] at r
  obtain ⟨i0, hi, hz0, hz1, hz2⟩ := info_parts info
  obtain ⟨A, c, hv, hc, hcell⟩ := r
  obtain ⟨b0, off, hA, _, hcc⟩ := hcell (by simp)
  injection hv with e1 e2 e3
  rw [← e1] at hA
  injection hA with hA
  injection hA with hA1 hA2
  subst hA1 hA2
  refine wpList_append_own_at _ hgd s x t ho B K.e i0 zv K.z by' ht hi hz0 hz1 hz2 hzs K.pos v l.length (K.cells l) hs (hown.alloc _) ⟨w.heap.size, 0, none⟩ 1 1 (K.cells [b]) hx (K.cells_len [b]) ?_ (K.cells_one [b]) hmax hlen (by simp; omega) ?_
  · intro j u hu
    rw [add_flat]
    exact hcc j u hu
  · intro v' w' h1 h2 _ h4
    refine h v' w' (by unfold Kd.Own; rw [Kd.cells_app, List.length_append]; exact h1) (((Below.refl B w).alloc hB _).trans ((Below.refl B _).grown h2 (by simp; omega) (fun k hk => (hown.lt k hk).1))) h2 ?_
    rcases h4 with h4 | h4
    · exact .inl h4
    · right; rw [h4]; simp
theorem Kd.step_app1A {α : Type} {K : Kd α} {P : Program} {ops : Array Oper} {o : Oper} {a : Act} {Kn : Act → World → Prop} {Q : Exit → Act → World → Prop} {E : Prop} {w : World} (hgd : o.guard = none) (s x : Operand) (t : TypeId)
    (ho : o.op = .call { callee := .builtin .append, args := #[s, x], argTypes := #[t, t] }) (ht : P.underlying t = some (.slice K.e)) {zv : Value} {by' : Nat} (info : (P.info? K.e).map (fun i => (i.zero, i.size, i.bytes)) = some (some zv, K.z, by')) (hzs : zv.cells.size = K.z)
    (B : Nat) (v : Value) (l : List α) (b : α) (hs : a.eval s = v) (hown : K.Own w B v l) (n : Nat) (hblk : w.heap[n]? = some (.cells (K.enc b).toArray K.e (0, 0))) (hx : a.eval x = .slice (some ⟨n, 0, none⟩) 1 1)
    (hmax : l.length + 1 ≤ maxLen) (hlen : (l.length + 1) * by' ≤ 140737488355328) (hB : B ≤ w.heap.size)
    (h : ∀ g cap w', K.Own w' B (.slice (some ⟨g, 0, none⟩) (l ++ [b]).length cap) (l ++ [b]) → w.grownBy w' v.ownBlock → (v.ownBlock = some g ∨ g = w.heap.size) → Kn (a.put o.dst (.slice (some ⟨g, 0, none⟩) (l ++ [b]).length cap)) w') :
    if Region.wanted o (yielded ops a.tmps) = true then Oper.wp P o a w Kn Q else E := by
  obtain ⟨i0, hi, hz0, hz1, hz2⟩ := info_parts info
  refine step_append_lies w hgd s x t ho B K.e i0 zv K.z by' ht hi hz0 hz1 hz2 hzs K.pos v l.length (K.cells l) hs hown ⟨n, 0, none⟩ 1 1 (K.enc b) hx ?_ ?_ ?_ (by omega) hmax hlen hB _ rfl ?_
  · rw [K.len, Nat.one_mul]
  · exact World.news_of_block hblk
  · exact fun u hu => K.one b u hu
  · intro g cap w' h1 h2 h3 h4
    have el : (l ++ [b]).length = l.length + 1 := by rw [List.length_append]; rfl
    rw [← el] at h1
    have := h g cap w' (by
      unfold Kd.Own
      rw [Kd.cells_app]
      have e : K.cells [b] = K.enc b := by simp [Kd.cells]
      rw [e]
      exact h1) h2 h3
    rwa [el] at this
/-- A block of another type is not the row's. -/
theorem Kd.Own.notIn {α : Type} {K : Kd α} {w : World} {B q : Nat} {v : Value} {l : List α} (h : K.Own w B v l) {cs : Array Value} {t : TypeId} {z : Nat × Nat} (hq : w.heap[q]? = some (.cells cs t z)) (ht : t ≠ K.e) : v.ownBlock ≠ some q := fun e => by
  rcases h.2 with ⟨rfl, _⟩ | ⟨k, cap, cur, rfl, _, hh, _⟩
  · simp [Value.ownBlock] at e
  · simp only [Value.ownBlock, Option.some.injEq] at e
    subst e
    rw [hh] at hq
    injection hq with hq
    injection hq with _ h2 _
    exact ht h2.symm
/-- A row beside another one of its type that grows. -/
theorem Kd.Own.beside {α : Type} {K : Kd α} {w w' : World} {B : Nat} {u : Value} {row : Option Nat} {m : List α} (h : K.Own w B u m) (hg : w.grownBy w' row) (hne : u.ownBlock ≠ row ∨ u.ownBlock = none) : K.Own w' B u m := by
  refine World.ownsRow.kept h hg ?_
  rcases h.2 with ⟨rfl, _⟩ | ⟨k, cap, cur, rfl, _, hh, _⟩
  · exact .inl rfl
  · right
    rcases hne with hne | hne
    · exact hne
    · simp [Value.ownBlock] at hne
/-- However lists of labels are taken, each once, entries of them are no more than there are. -/
theorem ofS_cons (s : List Lab) (x : Ent) (t : List Ent) : (ofS s (x :: t)).length = (if x.labs = s then 1 else 0) + (ofS s t).length := by
  unfold ofS
  rw [List.filter_cons]
  by_cases h : x.labs = s
  · rw [if_pos (by simpa using h), if_pos h, List.length_cons]; omega
  · rw [if_neg (by simpa using h), if_neg h]; omega
theorem once_sum (y : List Lab) : ∀ (L : List (List Lab)), L.Pairwise ltS → (L.map (fun s => if y = s then 1 else 0)).sum ≤ 1
  | [], _ => by simp
  | a :: t, h => by
    rw [List.pairwise_cons] at h
    rw [List.map_cons, List.sum_cons]
    by_cases e : y = a
    · subst e
      have : (t.map (fun s => if y = s then 1 else 0)).sum = 0 := by
        suffices hh : ∀ (t : List (List Lab)), (∀ s ∈ t, ltS y s) → (t.map (fun s => if y = s then 1 else 0)).sum = 0 from hh t h.1
        intro t
        induction t with
        | nil => intro _; rfl
        | cons b t ih =>
          intro hb
          rw [List.map_cons, List.sum_cons, ih (fun s hs => hb s (by simp [hs])), if_neg (fun e => ltS_ir y (by have := hb b (by simp); rwa [← e] at this))]
      rw [if_pos rfl, this]
      omega
    · have := once_sum y t h.2
      rw [if_neg e]
      omega
theorem sum_add {α : Type} (f g : α → Nat) : ∀ L : List α, (L.map (fun s => f s + g s)).sum = (L.map f).sum + (L.map g).sum
  | [] => rfl
  | a :: t => by
    rw [List.map_cons, List.sum_cons, List.map_cons, List.sum_cons, List.map_cons, List.sum_cons, sum_add f g t]
    omega
theorem ofS_sum : ∀ (S : List Ent) (L : List (List Lab)), L.Pairwise ltS → (L.map (fun s => (ofS s S).length)).sum ≤ S.length
  | [], L, _ => by
    have : ∀ L : List (List Lab), (L.map (fun s => (ofS s []).length)).sum = 0 := fun L => by
      induction L with
      | nil => rfl
      | cons a t ih => rw [List.map_cons, List.sum_cons, ih]; rfl
    rw [this]
    exact Nat.zero_le _
  | x :: t, L, h => by
    have e : (L.map (fun s => (ofS s (x :: t)).length)) = L.map (fun s => (if x.labs = s then 1 else 0) + (ofS s t).length) := List.map_congr_left (fun s _ => ofS_cons s x t)
    rw [e, sum_add]
    have h1 := once_sum x.labs L h
    have h2 := ofS_sum t L h
    simp only [List.length_cons]
    omega
/-- The chunks of some lists of labels. -/
def outS (S : List Ent) (L : List (List Lab)) : List (List Lab × List CRow) := L.flatMap (fun s => cutC s ((ofS s S).map rowOfE) 1000)
theorem outS_len (S : List Ent) (L : List (List Lab)) (h : L.Pairwise ltS) : (outS S L).length ≤ S.length := by
  refine Nat.le_trans ?_ (ofS_sum S L h)
  unfold outS
  clear h
  induction L with
  | nil => simp
  | cons a t ih =>
    rw [List.flatMap_cons, List.length_append, List.map_cons, List.sum_cons]
    have := cutC_len a ((ofS a S).map rowOfE) 1000
    rw [List.length_map] at this
    omega
theorem outS_snoc (S : List Ent) (L : List (List Lab)) (s : List Lab) : outS S (L ++ [s]) = outS S L ++ cutC s ((ofS s S).map rowOfE) 1000 := by unfold outS; rw [List.flatMap_append, List.flatMap_cons, List.flatMap_nil, List.append_nil]
/-- What Group answers, said by the lists of labels. -/
def GrR (l : List Ent) (C : List (List Lab × List CRow)) : Prop := ∃ S sets, StableOf ltT (gd l) S ∧ S.length = (gd l).length ∧ sets.Pairwise ltS ∧ (∀ s, s ∈ sets ↔ ∃ x ∈ S, x.labs = s) ∧ C = outS S sets
theorem ltM_ord : SWOrd ltM := by
  have h := ltEL_ord
  exact ⟨fun x y h1 => h.asym (x, none, 0) (y, none, 0) h1, fun x y z h1 => h.neg (x, none, 0) (y, none, 0) (z, none, 0) h1⟩
theorem GrOf.toR {l : List Ent} {C : List (List Lab × List CRow)} (h : GrOf l C) : GrR l C := by
  obtain ⟨S, T, h1, h2, h3, h4, rfl⟩ := h
  obtain ⟨r1, r2, r3⟩ := runs_sorted T.length T (Nat.le_refl _) h3.1
  have hm : ∀ x, x ∈ T ↔ x ∈ S := fun x => h3.mem ltM_ord
  have hs : ∀ s, s ∈ (runs T.length T).map (·.1) ↔ ∃ x ∈ S, x.labs = s := fun s => by
    rw [r2]
    exact ⟨fun ⟨x, hx, e⟩ => ⟨x, (hm x).1 hx, e⟩, fun ⟨x, hx, e⟩ => ⟨x, (hm x).2 hx, e⟩⟩
  refine ⟨S, (runs T.length T).map (·.1), h1, h2, r1, hs, ?_⟩
  have he := runs_sets h3 r1 hs hm
  unfold chsOf outS
  conv => lhs; rw [he]
  rw [List.flatMap_map]
theorem GrR.one {l : List Ent} {C D : List (List Lab × List CRow)} (h : GrR l C) (k : GrR l D) : C = D := by
  obtain ⟨S, A, h1, _, h3, h4, rfl⟩ := h
  obtain ⟨S', A', k1, _, k3, k4, rfl⟩ := k
  have e : S = S' := StableOf.one ltT_ord h1 k1
  subst e
  rw [strict_one ltS_ir ltS_as A A' h3 k3 (fun s => by rw [h4, k4])]
end Go.Icz
end
section
namespace Go.Icz
open Go.RowKit
theorem OwC.grow_rows {e : TypeId} {K : Kd CRow} (h1 : KLb.e ≠ K.e) (h2 : e ≠ K.e) {w w' : World} {B B' : Nat} {v rv : Value} {m : List CV} {cr : List CRow} (h : OwC e K w B v m) (hr : K.Own w B' rv cr) (hg : w.grownBy w' rv.ownBlock) (hap : ∀ y ∈ m, ∀ k, y.r.ownBlock = some k → rv.ownBlock ≠ some k) : OwC e K w' B v m :=
  ⟨Kd.Own.apart (K := KC e) (K' := K) h2 h.1 hr hg, fun y hy => ⟨Kd.Own.apart (K' := K) h1 (h.2 y hy).1 hr hg, (h.2 y hy).2.beside hg (by
    cases hk : y.r.ownBlock with
    | none => exact .inr rfl
    | some k => exact .inl (fun e2 => hap y hy k hk e2.symm))⟩⟩
theorem OwC.setq {e : TypeId} {K : Kd CRow} (h1 : e ≠ KLb.e) (h2 : e ≠ K.e) {w : World} {B q : Nat} {v : Value} {m : List CV} {cs : Array Value} {z : Nat × Nat} (h : OwC e K w B v m) (hq : w.heap[q]? = some (.cells cs e z)) (hv : v.ownBlock ≠ some q) (i : Nat) (u : Value) : OwC e K (w.setCell ⟨q, i, none⟩ u) B v m := by
  have t : Tch (fun k => k = q) w (w.setCell ⟨q, i, none⟩ u) := Tch.set (fun k => k = q) w ⟨q, i, none⟩ u rfl
  exact ⟨h.1.touch t (fun j hj => by rw [hj]; exact hv), fun y hy => ⟨(h.2 y hy).1.touch t (fun j hj => by rw [hj]; exact (h.2 y hy).1.notIn hq h1), (h.2 y hy).2.touch t (fun j hj => by rw [hj]; exact (h.2 y hy).2.notIn hq h2)⟩⟩
theorem Kd.Own.setq {α : Type} {K : Kd α} {w : World} {B q : Nat} {v : Value} {l : List α} {cs : Array Value} {e : TypeId} {z : Nat × Nat} (h : K.Own w B v l) (hq : w.heap[q]? = some (.cells cs e z)) (he : e ≠ K.e) (i : Nat) (u : Value) : K.Own (w.setCell ⟨q, i, none⟩ u) B v l :=
  h.touch (Tch.set (fun k => k = q) w ⟨q, i, none⟩ u rfl) (fun j hj => by rw [hj]; exact h.notIn hq he)
/-- The chunks that there are (out), and the one that is filled, in the box q. -/
structure Inn (wr W3 : World) (q : Nat) (ov lv rv : Value) (m : List CV) (s : List Lab) (cr : List CRow) : Prop where
  box : wr.heap[q]? = some (.cells #[lv, rv] 35 (0, 0))
  out : OwC 35 KRr wr W3.heap.size ov m
  nq : ov.ownBlock ≠ some q
  lab : KLb.Own wr W3.heap.size lv s
  row : KRr.Own wr W3.heap.size rv cr
  ap : ∀ y ∈ m, ∀ k, y.r.ownBlock = some k → rv.ownBlock ≠ some k
  bel : Below W3.heap.size W3 wr
  hq : W3.heap.size ≤ q
theorem Inn.below {wr W3 w' : World} {q : Nat} {ov lv rv : Value} {m : List CV} {s : List Lab} {cr : List CRow} (h : Inn wr W3 q ov lv rv m s cr) (hb : Below wr.heap.size wr w') : Inn w' W3 q ov lv rv m s cr :=
  ⟨(hb.block _ (row_lt h.box)).trans h.box, h.out.below hb, h.nq, h.lab.below hb, h.row.below hb, h.ap, h.bel.trans (hb.mono h.bel.size), h.hq⟩
/-- One row more in the chunk that is filled. -/
theorem Inn.more {w1 W3 w' : World} {q : Nat} {ov lv rv : Value} {m : List CV} {s : List Lab} {cr : List CRow} (h : Inn w1 W3 q ov lv rv m s cr) {g cap : Nat} {x : CRow} (ho : KRr.Own w' W3.heap.size (.slice (some ⟨g, 0, none⟩) (cr ++ [x]).length cap) (cr ++ [x])) (hg : w1.grownBy w' rv.ownBlock) (hat : rv.ownBlock = some g ∨ g = w1.heap.size) :
    w'.heap[q]? = some (.cells #[lv, rv] 35 (0, 0)) ∧ Inn (w'.setCell ⟨q, 1, none⟩ (.slice (some ⟨g, 0, none⟩) (cr ++ [x]).length cap)) W3 q ov lv (.slice (some ⟨g, 0, none⟩) (cr ++ [x]).length cap) m s (cr ++ [x]) ∧ Below W3.heap.size W3 w' := by
  have hqr : rv.ownBlock ≠ some q := h.row.notIn h.box (by decide)
  have hbox : w'.heap[q]? = some (.cells #[lv, rv] 35 (0, 0)) := (hg.block q (row_lt h.box) (fun e => hqr e.symm)).trans h.box
  have hout : OwC 35 KRr w' W3.heap.size ov m := h.out.grow_rows (by decide) (by decide) h.row hg h.ap
  have hlab : KLb.Own w' W3.heap.size lv s := Kd.Own.apart (K' := KRr) (by decide) h.lab h.row hg
  have hb : Below W3.heap.size W3 w' := h.bel.grown hg h.bel.size (fun k hk => (h.row.lt k hk).1)
  refine ⟨hbox, ⟨?_, hout.setq (by decide) (by decide) hbox h.nq 1 _, h.nq, hlab.setq hbox (by decide) 1 _, ho.setq hbox (by decide) 1 _, fun y hy k hk e => ?_, ?_, h.hq⟩, hb⟩
  · have := row_set (i := 1) hbox (.slice (some ⟨g, 0, none⟩) (cr ++ [x]).length cap)
    exact this
  · simp only [Value.ownBlock, Option.some.injEq] at e
    subst e
    rcases hat with h1 | h1
    · exact h.ap y hy _ hk h1
    · have := ((h.out.2 y hy).2.lt _ hk).2
      omega
  · exact Tch.below hb (Tch.set (fun k => k = q) w' ⟨q, 1, none⟩ _ rfl) (fun j hj => by rw [hj]; exact h.hq) hb.size
/-- The chunk that is filled, put behind those that there are. -/
theorem Inn.push {wr W3 w' : World} {q : Nat} {ov ov' : Value} {A5 A9 : Option Addr} {k5 k9 : Nat} {m : List CV} {s : List Lab} {cr : List CRow} {cs : Array Value} (h : Inn wr W3 q ov (.slice A5 s.length k5) (.slice A9 cr.length k9) m s cr)
    (ho : (KC 35).Own w' W3.heap.size ov' (m ++ [⟨s, A5, k5, cr, A9, k9⟩])) (hg : (wr.alloc (.cells cs 35)).grownBy w' ov.ownBlock) (hat : ov'.ownBlock = ov.ownBlock ∨ ov'.ownBlock = some (wr.heap.size + 1)) :
    OwC 35 KRr w' W3.heap.size ov' (m ++ [⟨s, A5, k5, cr, A9, k9⟩]) ∧ Below W3.heap.size W3 w' ∧ w'.heap[q]? = some (.cells #[.slice A5 s.length k5, .slice A9 cr.length k9] 35 (0, 0)) ∧ ov'.ownBlock ≠ some q := by
  have hb1 : Below wr.heap.size wr (wr.alloc (.cells cs 35)) := (Below.refl _ wr).alloc (Nat.le_refl _) _
  have h1 := h.below hb1
  refine ⟨OwC.more (by decide) (by decide) h1.out (fun y hy => ?_) ho hg, h1.bel.grown hg h1.bel.size (fun k hk => (h1.out.1.lt k hk).1), (hg.block q (row_lt h1.box) (fun e => h.nq e.symm)).trans h1.box, ?_⟩
  · obtain rfl := List.mem_singleton.1 hy
    exact ⟨h1.lab, h1.row⟩
  · rcases hat with e | e
    · rw [e]; exact h.nq
    · rw [e]
      intro e2
      injection e2 with e2
      have := row_lt h.box
      omega
/-- A new chunk to be filled, in a box that there is. -/
theorem Inn.anew {w W3 w' : World} {q : Nat} {ov a b : Value} {A5 : Option Addr} {k5 : Nat} {m : List CV} {s : List Lab} (ho : OwC 35 KRr w W3.heap.size ov m) (hb : Below W3.heap.size W3 w) (hbox : w.heap[q]? = some (.cells #[a, b] 35 (0, 0))) (hn : ov.ownBlock ≠ some q) (hq : W3.heap.size ≤ q) (hb2 : Below w.heap.size w w') (hl : KLb.Own w' W3.heap.size (.slice A5 s.length k5) s) :
    w'.heap[q]? = some (.cells #[a, b] 35 (0, 0)) ∧ Inn ((w'.setCell ⟨q, 0, none⟩ (.slice A5 s.length k5)).setCell ⟨q, 1, none⟩ (.slice none 0 0)) W3 q ov (.slice A5 s.length k5) (.slice none 0 0) m s [] := by
  have hx := (hb2.block q (row_lt hbox)).trans hbox
  have o1 := ho.below hb2
  have hx1 := row_set (i := 0) hx (.slice A5 s.length k5)
  have o2 := o1.setq (by decide) (by decide) hx hn 0 (.slice A5 s.length k5)
  have l2 := hl.setq hx (by decide) 0 (.slice A5 s.length k5)
  have hx2 := row_set (i := 1) hx1 (.slice none 0 0)
  have bw := hb.trans (hb2.mono hb.size)
  refine ⟨hx, ⟨hx2, o2.setq (by decide) (by decide) hx1 hn 1 _, hn, l2.setq hx1 (by decide) 1 _, Kd.Own.nil _ _, fun y hy k hk e => (by simp [Value.ownBlock] at e), ?_, hq⟩⟩
  have t1 := Tch.below bw (Tch.set (fun k => k = q) w' ⟨q, 0, none⟩ (.slice A5 s.length k5) rfl) (fun j hj => by rw [hj]; exact hq) bw.size
  exact Tch.below t1 (Tch.set (fun k => k = q) (w'.setCell ⟨q, 0, none⟩ (.slice A5 s.length k5)) ⟨q, 1, none⟩ (.slice none 0 0) rfl) (fun j hj => by rw [hj]; exact hq) t1.size
/-- The first chunk to be filled, in a new box. -/
theorem Inn.start {w W3 : World} {ov : Value} {A5 : Option Addr} {k5 : Nat} {m : List CV} {s : List Lab} (ho : OwC 35 KRr w W3.heap.size ov m) (hb : Below W3.heap.size W3 w) (hl : KLb.Own w W3.heap.size (.slice A5 s.length k5) s) :
    Inn (w.alloc (.cells #[.slice A5 s.length k5, .slice none 0 0] 35)) W3 w.heap.size ov (.slice A5 s.length k5) (.slice none 0 0) m s [] := by
  have b1 : Below w.heap.size w (w.alloc (.cells #[.slice A5 s.length k5, .slice none 0 0] 35)) := (Below.refl _ w).alloc (Nat.le_refl _) _
  refine ⟨heap_alloc_new w _, ho.below b1, fun e => ?_, hl.below b1, Kd.Own.nil _ _, fun y hy k hk e => (by simp [Value.ownBlock] at e), hb.trans (b1.mono hb.size), hb.size⟩
  have := (ho.1.lt _ e).2
  omega
theorem below_fresh {w w' : World} {o : Obj} (g : (w.alloc o).grownBy w' (some w.heap.size)) : Below w.heap.size w w' :=
  ((Below.refl _ w).alloc (Nat.le_refl _) _).grown g (by rw [World.size_alloc]; omega) (fun k hk => by injection hk with hk; omega)
theorem flatten_ge {α : Type} : ∀ (P : List (List α)), (∀ p ∈ P, p.length = 1000) → P.length ≤ P.flatten.length
  | [], _ => Nat.le_refl _
  | a :: t, h => by
    have := flatten_ge t (fun p hp => h p (by simp [hp]))
    have ha := h a (by simp)
    rw [List.flatten_cons, List.length_append, List.length_cons]
    omega
theorem PcInv.len {s : List Lab} {F : List Ent} {out : List (List Lab × List CRow)} {c : List CRow} (h : PcInv s F out c) (hc : c ≠ []) : out.length + 1 ≤ F.length := by
  obtain ⟨P, h1, h2, h3, h4, h5⟩ := h
  have := flatten_ge P h3
  have e := congrArg List.length h2
  rw [List.length_map, List.length_append] at e
  have := List.length_pos_iff.2 hc
  rw [h1, List.length_map]
  omega
theorem PcInv.le {s : List Lab} {F : List Ent} {out : List (List Lab × List CRow)} {c : List CRow} (h : PcInv s F out c) : c.length ≤ F.length ∧ c.length ≤ 1000 := by
  obtain ⟨P, h1, h2, h3, h4, h5⟩ := h
  have e := congrArg List.length h2
  rw [List.length_map, List.length_append] at e
  exact ⟨by omega, h4⟩
theorem PcInv.some {s : List Lab} {F : List Ent} {out : List (List Lab × List CRow)} {c : List CRow} (h : PcInv s F out c) (hF : F ≠ []) : c ≠ [] := fun e => by
  obtain ⟨P, h1, h2, h3, h4, h5⟩ := h
  rw [h5 e, e] at h2
  exact hF (List.map_eq_nil_iff.1 h2)
theorem ofS_take (s : List Lab) (S : List Ent) (j : Nat) : (ofS s (S.take j)).length ≤ (ofS s S).length := ((List.take_sublist j S).filter _).length_le
theorem outS_len2 (S : List Ent) (L : List (List Lab)) (s : List Lab) (h : (L ++ [s]).Pairwise ltS) : (outS S L).length + (ofS s S).length ≤ S.length := by
  refine Nat.le_trans ?_ (ofS_sum S (L ++ [s]) h)
  rw [List.map_append, List.sum_append]
  have : ∀ L : List (List Lab), (outS S L).length ≤ (L.map (fun s => (ofS s S).length)).sum := fun L => by
    unfold outS
    induction L with
    | nil => simp
    | cons a t ih =>
      rw [List.flatMap_cons, List.length_append, List.map_cons, List.sum_cons]
      have := cutC_len a ((ofS a S).map rowOfE) 1000
      rw [List.length_map] at this
      omega
  have := this L
  simp
  omega
end Go.Icz
end
