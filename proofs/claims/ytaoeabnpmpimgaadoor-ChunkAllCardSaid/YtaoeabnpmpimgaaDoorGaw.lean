/-
  The chunks of entries: each may be, and together they have each entry once. No conditions but those that each theorem names.
  Entries in a map by their numbers. No conditions but those that each theorem names.
  ChunkAll: the law's walk. Conditions: those that each theorem names.
-/
import Derived.Test.YtaoeabnpmpimgaaDoorGrg
import Derived.Test.YtaoeabnpmpimgaaDoorHrr
import Derived.Test.YtaoeabnpmpimgaaDoorLsl
import Derived.Test.YtaoeabnpmpimgaaDoorGlw
import Derived.Test.YtaoeabnpmpimgaaDoorHsn
import Derived.Test.YtaoeabnpmpimgaaDoorHkn
import Derived.Test.YtaoeabnpmpimgaaDoorEntAll2
import Derived.Test.YtaoeabnpmpimgaaDoorEntSames
section
namespace Go.Icz
open Go.RowKit
theorem StableOf.perm {lt : Ent → Ent → Bool} (hS : SWOrd lt) {l r : List Ent} (h : StableOf lt l r) : r.Perm l := by
  classical
  refine List.perm_iff_count.2 (fun a => ?_)
  have ha : eqv lt a a = true := eqv_iff.2 ⟨hS.irr a, hS.irr a⟩
  have h1 := List.count_filter (l := r) (p := eqv lt a) ha
  have h2 := List.count_filter (l := l) (p := eqv lt a) ha
  rw [← h1, ← h2, h.2 a]
theorem gd_nodup (l : List Ent) : ((gd l).map (·.seq)).Nodup := by
  suffices h : ∀ (l acc : List Ent), (acc.map (·.seq)).Nodup → ((l.foldl gdStepE acc).map (·.seq)).Nodup from h l [] (by simp)
  intro l
  induction l with
  | nil => intro acc h; exact h
  | cons x t ih =>
    intro acc h
    rw [List.foldl_cons]
    refine ih _ ?_
    unfold gdStepE
    split
    · next hc =>
      rw [List.map_append, List.map_singleton]
      refine List.nodup_append.2 ⟨h, by simp, fun a ha b hb => ?_⟩
      obtain rfl := List.mem_singleton.1 hb
      exact fun e => hc.2 (e ▸ ha)
    · exact h
theorem gd_right (l : List Ent) : ∀ x ∈ gd l, entR x = true := by
  suffices h : ∀ (l acc : List Ent), (∀ x ∈ acc, entR x = true) → ∀ x ∈ l.foldl gdStepE acc, entR x = true from h l [] (by simp)
  intro l
  induction l with
  | nil => intro acc h; exact h
  | cons x t ih =>
    intro acc h
    rw [List.foldl_cons]
    refine ih _ (fun y hy => ?_)
    unfold gdStepE at hy
    split at hy
    · next hc =>
      rcases List.mem_append.1 hy with hy | hy
      · exact h y hy
      · obtain rfl := List.mem_singleton.1 hy; exact hc.1
    · exact h y hy
/-- Rows that rise strictly, each once, may be a chunk. -/
theorem chR_of {labs : List Lab} {R : List CRow} (h1 : 1 ≤ R.length ∧ R.length ≤ 1000) (h2 : rightS labs = true) (h3 : ∀ x ∈ R, rowOk x) (h4 : R.Pairwise (fun a b => a.time < b.time ∨ a.time = b.time ∧ a.seq < b.seq)) (h5 : (R.map (·.seq)).Nodup) : chR labs R = true := by
  refine (chR_iff labs R).2 ⟨h1, h2, fun j hj => ⟨?_, fun h0 => ?_, fun k hk => ?_⟩⟩
  · rw [crAt_eq hj]; exact h3 _ (List.getElem_mem hj)
  · rw [crAt_eq hj, crAt_eq (show j - 1 < R.length by omega)]
    exact List.pairwise_iff_getElem.1 h4 (j - 1) j (by omega) hj (by omega)
  · rw [crAt_eq hj, crAt_eq (show k < R.length by omega)]
    have h6 := List.pairwise_iff_getElem.1 h5 k j (by rw [List.length_map]; omega) (by rw [List.length_map]; omega) hk
    rwa [List.getElem_map, List.getElem_map] at h6
theorem pcAt_sub {α : Type} (l : List α) (p : Nat × Nat) : (pcAt l p).Sublist l := (List.take_sublist _ _).trans (List.drop_sublist _ _)
theorem posL_pos {n L i : Nat} (hn : 1 ≤ n) {x : Nat × Nat} (h : x ∈ posL n L i) : 1 ≤ x.2 ∧ x.1 + x.2 ≤ L := by
  refine ⟨?_, posL_mem h⟩
  suffices hh : ∀ (k i : Nat), x ∈ posN n L k i → 1 ≤ x.2 from hh _ _ h
  intro k
  induction k with
  | zero => intro i h; cases h
  | succ k ih =>
    intro i h
    unfold posN at h
    split at h
    · rcases List.mem_cons.1 h with rfl | h
      · simp only; omega
      · exact ih _ h
    · cases h
/-- Each chunk of the answer may be. -/
theorem GrR.right {l : List Ent} {C : List (List Lab × List CRow)} (h : GrR l C) : ∀ p ∈ C, chR p.1 p.2 = true := by
  obtain ⟨S, sets, h1, h2, h3, h4, rfl⟩ := h
  intro p hp
  unfold outS at hp
  obtain ⟨s, hs, hp⟩ := List.mem_flatMap.1 hp
  unfold cutC at hp
  obtain ⟨q, hq, rfl⟩ := List.mem_map.1 hp
  obtain ⟨q1, q2⟩ := posL_pos (by omega) hq
  have q3 := posL_mem2 hq
  have hperm := h1.perm ltT_ord
  have hnd : (S.map (·.seq)).Nodup := (hperm.map _).nodup_iff.2 (gd_nodup l)
  have hsub : (pcAt ((ofS s S).map rowOfE) q).Sublist (S.map rowOfE) := (pcAt_sub _ _).trans ((List.filter_sublist).map _)
  have hstr : (S.map rowOfE).Pairwise (fun a b => a.time < b.time ∨ a.time = b.time ∧ a.seq < b.seq) := by
    rw [List.pairwise_map]
    have hp1 := h1.1
    have hp2 : S.Pairwise (fun a b => a.seq ≠ b.seq) := List.pairwise_map.1 hnd
    refine (hp1.and hp2).imp (fun {a b} hab => ?_)
    have e := ltE_iff (b, none, 0) (a, none, 0)
    have e2 : ltT b a = ltE (b, none, 0) (a, none, 0) := rfl
    rw [e2] at hab
    have hn : ¬ (b.time < a.time ∨ (b.time = a.time ∧ b.seq < a.seq)) := fun h9 => by rw [e.2 h9] at hab; exact absurd hab.1 (by simp)
    have hne := hab.2
    show a.time < b.time ∨ a.time = b.time ∧ a.seq < b.seq
    omega
  have hin : ∀ x ∈ S, entR x = true := fun x hx => gd_right l x (hperm.mem_iff.1 hx)
  obtain ⟨x, hx, e⟩ := (h4 s).1 hs
  have hrs : rightS s = true := by
    have := (entR_row x.labs (rowOfE x)).1 (hin x hx)
    rw [← e]
    exact this.2
  refine chR_of ?_ hrs (fun y hy => ?_) (hstr.sublist hsub) (List.Nodup.sublist (hsub.map _) (by rw [List.map_map]; exact hnd))
  · simp only
    unfold pcAt
    rw [List.length_take, List.length_drop]
    omega
  · obtain ⟨z, hz, rfl⟩ := List.mem_map.1 (hsub.subset hy)
    exact ((entR_row z.labs (rowOfE z)).1 (hin z hz)).1
/-- A list's pieces, one behind the other, are it. -/
theorem pieces_flat {α : Type} {n : Nat} (hn : 1 ≤ n) (F : List α) : ∀ (k i : Nat), F.length - i ≤ k → i ≤ F.length → ((posN n F.length k i).map (pcAt F)).flatten = F.drop i
  | 0, i, h, hi => by
    rw [List.drop_eq_nil_of_le (by omega)]; rfl
  | k + 1, i, h, hi => by
    unfold posN
    by_cases hlt : i < F.length
    · rw [if_pos hlt, List.map_cons, List.flatten_cons]
      rcases Nat.lt_or_ge F.length (i + n) with h2 | h2
      · have e1 : min n (F.length - i) = F.length - i := by omega
        have e2 : posN n F.length k (i + n) = [] := by
          cases k with
          | zero => rfl
          | succ k => unfold posN; rw [if_neg (by omega)]
        rw [e1, e2, List.map_nil, List.flatten_nil, List.append_nil]
        unfold pcAt
        exact List.take_of_length_le (by rw [List.length_drop]; omega)
      · have e1 : min n (F.length - i) = n := by omega
        rw [e1, pieces_flat hn F k (i + n) (by omega) (by omega)]
        unfold pcAt
        simp only
        rw [← List.drop_drop]
        exact List.take_append_drop n (F.drop i)
    · rw [if_neg hlt, List.drop_eq_nil_of_le (by omega)]; rfl
theorem cutC_flat (s : List Lab) (R : List CRow) (n : Nat) (hn : 1 ≤ n) : (cutC s R n).flatMap (fun p => p.2) = R := by
  unfold cutC posL
  rw [List.flatMap_map]
  have := pieces_flat hn R (R.length - 0) 0 (Nat.le_refl _) (Nat.zero_le _)
  rw [List.drop_zero] at this
  rw [List.flatten_eq_flatMap, List.flatMap_map] at this
  exact this
/-- The entries of chunks. -/
def entsC (C : List (List Lab × List CRow)) : List Ent := C.flatMap (fun p => p.2.map (entC p.1))
theorem entC_of (x : Ent) : entC x.labs (rowOfE x) = x := rfl
theorem cutC_ents (s : List Lab) (F : List Ent) (h : ∀ x ∈ F, x.labs = s) : entsC (cutC s (F.map rowOfE) 1000) = F := by
  unfold entsC
  have e : (cutC s (F.map rowOfE) 1000).flatMap (fun p => p.2.map (entC p.1)) = ((cutC s (F.map rowOfE) 1000).flatMap (fun p => p.2)).map (entC s) := by
    unfold cutC
    rw [List.flatMap_map, List.flatMap_map, List.map_flatMap]
  rw [e, cutC_flat s _ 1000 (by omega), List.map_map]
  conv => rhs; rw [← List.map_id F]
  refine List.map_congr_left (fun x hx => ?_)
  have := h x hx
  show entC s (rowOfE x) = x
  rw [← this]
  rfl
theorem runs_flat : ∀ (k : Nat) (T : List Ent), T.length ≤ k → entsC (chsOf (runs k T)) = T
  | 0, T, h => by obtain rfl := List.eq_nil_of_length_eq_zero (Nat.le_zero.1 h); rfl
  | k + 1, [], _ => rfl
  | k + 1, x :: t, h => by
    have hd := dropWhile_len (fun y : Ent => decide (y.labs = x.labs)) t
    simp only [List.length_cons] at h
    unfold runs chsOf
    rw [List.flatMap_cons]
    have ih := runs_flat k (t.dropWhile (fun y => decide (y.labs = x.labs))) (by omega)
    unfold chsOf at ih
    have h1 := cutC_ents x.labs (x :: t.takeWhile (fun y => decide (y.labs = x.labs))) (fun y hy => by
      rcases List.mem_cons.1 hy with rfl | hy
      · rfl
      · have h9 := mem_takeWhile (q := fun y : Ent => decide (y.labs = x.labs)) hy
        simpa using h9)
    unfold entsC at h1 ih ⊢
    rw [List.flatMap_append, h1, ih, List.cons_append, List.takeWhile_append_dropWhile]
/-- The chunks of the answer have each of the entries that count, once. -/
theorem GrOf.ents {l : List Ent} {C : List (List Lab × List CRow)} (h : GrOf l C) : (entsC C).Perm (gd l) := by
  obtain ⟨S, T, h1, _, h3, _, rfl⟩ := h
  rw [runs_flat T.length T (Nat.le_refl _)]
  exact (h3.perm ltM_ord).trans (h1.perm ltT_ord)
/-- The pieces of a chunk that may be may be. -/
theorem chR_piece {labs : List Lab} {rows : List CRow} (h : chR labs rows = true) {q : Nat × Nat} (h1 : 1 ≤ q.2) (h2 : q.1 + q.2 ≤ rows.length) : chR labs (pcAt rows q) = true := by
  obtain ⟨h3, h4, h5⟩ := (chR_iff labs rows).1 h
  have hl : (pcAt rows q).length = q.2 := by unfold pcAt; rw [List.length_take, List.length_drop]; omega
  have ha : ∀ j, j < q.2 → crAt (pcAt rows q) j = crAt rows (q.1 + j) := fun j hj => by
    rw [crAt_eq (by omega), crAt_eq (by omega)]
    unfold pcAt
    simp
  refine (chR_iff labs _).2 ⟨by omega, h4, fun j hj => ?_⟩
  rw [hl] at hj
  obtain ⟨k1, k2, k3⟩ := h5 (q.1 + j) (by omega)
  refine ⟨by rw [ha j hj]; exact k1, fun h0 => ?_, fun k hk => ?_⟩
  · rw [ha j hj, ha (j - 1) (by omega)]
    have := k2 (by omega)
    rwa [show q.1 + j - 1 = q.1 + (j - 1) by omega] at this
  · rw [ha j hj, ha k (by omega)]
    exact k3 (q.1 + k) (by omega)
theorem posN_get {n L : Nat} (hn : 1 ≤ n) : ∀ (k i : Nat), L - i ≤ k → ∀ j (hj : j < (posN n L k i).length), (posN n L k i)[j] = (i + j * n, min n (L - (i + j * n))) ∧ i + j * n < L
  | 0, i, h, j, hj => by simp [posN] at hj
  | k + 1, i, h, j, hj => by
    by_cases hlt : i < L
    · have e : posN n L (k + 1) i = (i, min n (L - i)) :: posN n L k (i + n) := by conv => lhs; unfold posN; rw [if_pos hlt]
      cases j with
      | zero =>
        simp only [e, List.getElem_cons_zero]
        exact ⟨by simp, by omega⟩
      | succ j =>
        have hj' : j < (posN n L k (i + n)).length := by
          rw [e] at hj
          simpa using hj
        have ih := posN_get hn k (i + n) (by omega) j hj'
        simp only [e, List.getElem_cons_succ]
        rw [ih.1]
        have e2 : i + n + j * n = i + (j + 1) * n := by rw [Nat.add_mul]; omega
        rw [e2] at ih ⊢
        exact ⟨rfl, ih.2⟩
    · exfalso
      unfold posN at hj
      rw [if_neg hlt] at hj
      simp at hj
/-- Where the pieces of a chunk lie; all but the last one are full. -/
theorem cutC_get {labs : List Lab} {rows : List CRow} {n : Nat} (hn : 1 ≤ n) (j : Nat) (hj : j < (cutC labs rows n).length) : ∃ q : Nat × Nat, (cutC labs rows n)[j] = (labs, pcAt rows q) ∧ 1 ≤ q.2 ∧ q.1 + q.2 ≤ rows.length ∧ q.2 ≤ n ∧ (j + 1 < (cutC labs rows n).length → q.2 = n) := by
  have hl : (cutC labs rows n).length = (posL n rows.length 0).length := by unfold cutC; rw [List.length_map]
  have hj' : j < (posL n rows.length 0).length := by omega
  have hm := List.getElem_mem hj'
  obtain ⟨p1, p2⟩ := posL_pos hn hm
  have p3 := posL_mem2 hm
  refine ⟨(posL n rows.length 0)[j], by unfold cutC; exact List.getElem_map .., p1, p2, p3, fun h => ?_⟩
  have g1 := posN_get hn (rows.length - 0) 0 (Nat.le_refl _) j hj'
  have g2 := posN_get hn (rows.length - 0) 0 (Nat.le_refl _) (j + 1) (by unfold posL at hl; omega)
  have e := g1.1
  have e2 : (posL n rows.length 0)[j] = (0 + j * n, min n (rows.length - (0 + j * n))) := e
  rw [e2]
  simp only
  have h3 := g2.2
  rw [Nat.add_mul] at h3
  omega
theorem gd_memA (l : List Ent) : ∀ x ∈ gd l, x ∈ l := by
  suffices h : ∀ (l acc : List Ent), ∀ x ∈ l.foldl gdStepE acc, x ∈ acc ∨ x ∈ l by
    intro x hx
    rcases h l [] x hx with h1 | h1
    · cases h1
    · exact h1
  intro l
  induction l with
  | nil => intro acc x hx; exact .inl hx
  | cons y t ih =>
    intro acc x hx
    rw [List.foldl_cons] at hx
    rcases ih _ x hx with h1 | h1
    · unfold gdStepE at h1
      split at h1
      · rcases List.mem_append.1 h1 with h3 | h3
        · exact .inl h3
        · obtain rfl := List.mem_singleton.1 h3
          exact .inr (by simp)
      · exact .inl h1
    · exact .inr (List.mem_cons_of_mem _ h1)
theorem gd_lenA (l : List Ent) : (gd l).length ≤ l.length := by
  suffices h : ∀ (l acc : List Ent), (l.foldl gdStepE acc).length ≤ acc.length + l.length by have := h l []; simpa [gd] using this
  intro l
  induction l with
  | nil => intro acc; simp
  | cons x t ih =>
    intro acc
    rw [List.foldl_cons]
    have := ih (gdStepE acc x)
    have h2 : (gdStepE acc x).length ≤ acc.length + 1 := by
      unfold gdStepE
      split
      · simp
      · omega
    simp only [List.length_cons]
    omega
/-- The next row of the answer is new. -/
theorem next_new {l : List Ent} {C : List (List Lab × List CRow)} (h : GrOf l C) {i : Nat} (hi : i < C.length) {k : Nat} (hk : k < (C[i]).2.length) :
    ¬ ((C[i]).2[k]).seq ∈ (entsC (C.take i) ++ ((C[i]).2.take k).map (entC (C[i]).1)).map (·.seq) ∧ entC (C[i]).1 ((C[i]).2[k]) ∈ l ∧ (entsC (C.take i) ++ ((C[i]).2.take k).map (entC (C[i]).1)).length < l.length := by
  have hp := h.ents
  have e1 : C = C.take i ++ C[i] :: C.drop (i + 1) := by
    rw [← List.drop_eq_getElem_cons hi]
    exact (List.take_append_drop i C).symm
  have e2 : (C[i]).2 = (C[i]).2.take k ++ (C[i]).2[k] :: (C[i]).2.drop (k + 1) := by
    rw [← List.drop_eq_getElem_cons hk]
    exact (List.take_append_drop k _).symm
  have e : entsC C = (entsC (C.take i) ++ ((C[i]).2.take k).map (entC (C[i]).1)) ++ (entC (C[i]).1 ((C[i]).2[k]) :: (((C[i]).2.drop (k + 1)).map (entC (C[i]).1) ++ entsC (C.drop (i + 1)))) := by
    have f1 : entsC C = entsC (C.take i ++ C[i] :: C.drop (i + 1)) := congrArg entsC e1
    have f2 : ((C[i]).2.map (entC (C[i]).1)) = (((C[i]).2.take k ++ (C[i]).2[k] :: (C[i]).2.drop (k + 1)).map (entC (C[i]).1)) := congrArg (List.map _) e2
    rw [f1]
    unfold entsC
    rw [List.flatMap_append, List.flatMap_cons, f2, List.map_append, List.map_cons]
    simp only [List.append_assoc, List.cons_append]
  generalize entsC (C.take i) ++ ((C[i]).2.take k).map (entC (C[i]).1) = P at *
  generalize ((C[i]).2.drop (k + 1)).map (entC (C[i]).1) ++ entsC (C.drop (i + 1)) = R at *
  rw [e] at hp
  have hn := (hp.map (·.seq)).nodup_iff.2 (gd_nodup l)
  rw [List.map_append, List.map_cons] at hn
  obtain ⟨_, _, h3⟩ := List.nodup_append.1 hn
  refine ⟨fun hm => h3 _ hm _ (List.mem_cons_self ..) rfl, gd_memA l _ (hp.mem_iff.1 (by simp)), ?_⟩
  have h4 := hp.length_eq
  have h5 := gd_lenA l
  rw [List.length_append, List.length_cons] at h4
  omega
theorem entsC_pos {l : List Ent} {C : List (List Lab × List CRow)} (h : GrOf l C) : C.length ≤ l.length := by
  have h1 := h.toR.right
  have h2 : C.length ≤ (entsC C).length := by
    clear h
    induction C with
    | nil => simp
    | cons p t ih =>
      have h3 := ((chR_iff p.1 p.2).1 (h1 p (by simp))).1.1
      have h4 := ih (fun q hq => h1 q (by simp [hq]))
      unfold entsC at h4 ⊢
      rw [List.flatMap_cons, List.length_append, List.length_map, List.length_cons]
      omega
  have h5 := h.ents.length_eq
  have h6 := gd_lenA l
  omega
end Go.Icz
end
section
namespace Go.Icz
open Go.RowKit Go.Maps Go.ChangeMaps Go.MapKept Go.WideShapes
/-- An element that is a slice: read as where it lies. -/
def rSl : Value → Option (DataW Unit × List MemPlace)
  | .slice none 0 0 => some (.nil, [])
  | .slice (some ⟨b, o, none⟩) n c => some (.agg [.lit (.int .i64 b), .lit (.int .i64 o), .lit (.int .i64 n), .lit (.int .i64 c)], [])
  | _ => none
theorem rSl_inv {v : Value} {d : DataW Unit} {p : List MemPlace} (h : rSl v = some (d, p)) :
    (v = .slice none 0 0 ∧ d = .nil) ∨ ∃ (b o n c : Nat), v = .slice (some ⟨b, o, none⟩) n c ∧ d = .agg [.lit (.int .i64 b), .lit (.int .i64 o), .lit (.int .i64 n), .lit (.int .i64 c)] := by
  unfold rSl at h
  split at h
  · simp only [Option.some.injEq, Prod.mk.injEq] at h; exact .inl ⟨rfl, h.1.symm⟩
  · rename_i b o n c; simp only [Option.some.injEq, Prod.mk.injEq] at h; exact .inr ⟨b, o, n, c, rfl, h.1.symm⟩
  · cases h
theorem rSl_one {u v : Value} {d : DataW Unit} {p q : List MemPlace} (h : rSl u = some (d, p)) (h2 : rSl v = some (d, q)) : u = v := by
  rcases rSl_inv h with ⟨rfl, rfl⟩ | ⟨b, o, n, c, rfl, rfl⟩
  · rcases rSl_inv h2 with ⟨rfl, _⟩ | ⟨b2, o2, n2, c2, rfl, e⟩
    · rfl
    · cases e
  · rcases rSl_inv h2 with ⟨rfl, e⟩ | ⟨b2, o2, n2, c2, rfl, e⟩
    · cases e
    · simp at e
      obtain ⟨e1, e2, e3, e4⟩ := e
      have f1 : b = b2 := by omega
      have f2 : o = o2 := by omega
      have f3 : n = n2 := by omega
      have f4 : c = c2 := by omega
      subst f1 f2 f3 f4
      rfl
/-- An entry: read as its numbers, its line, and where its labels lie. -/
def rEl : List Value → Option (DataW Unit × List MemPlace)
  | [.int .i64 s, .int .i64 t, u, .string b] => match rSl u with
    | some (d, _) => some (.agg [.lit (.int .i64 s), .lit (.int .i64 t), d, .lit (.string b.data.toList)], [])
    | none => none
  | _ => none
def rEn : Value → Option (DataW Unit × List MemPlace)
  | .agg vs => rEl vs.toList
  | _ => none
theorem rEn_mk {x : EV} {d : DataW Unit} {p : List MemPlace} (h : rSl (.slice x.2.1 x.1.labs.length x.2.2) = some (d, p)) : rEn (eV x) = some (.agg [.lit (.int .i64 x.1.seq), .lit (.int .i64 x.1.time), d, .lit (.string x.1.line)], []) := by
  unfold eV rEn
  simp only
  unfold rEl
  simp only [h]
theorem rEn_zero : rEn (.agg #[.int .i64 0, .int .i64 0, .slice none 0 0, .string ⟨#[]⟩]) = some (.agg [.lit (.int .i64 0), .lit (.int .i64 0), .nil, .lit (.string [])], []) := rfl
/-- Of one datum there is one entry. -/
theorem rEn_one {v : Value} {x : EV} {d d' : DataW Unit} {p q : List MemPlace} (h : rSl (.slice x.2.1 x.1.labs.length x.2.2) = some (d, p)) (hv : rEn v = some (.agg [.lit (.int .i64 x.1.seq), .lit (.int .i64 x.1.time), d, .lit (.string x.1.line)], q)) : v = eV x := by
  unfold rEn at hv
  split at hv
  · rename_i vs
    unfold rEl at hv
    split at hv
    · rename_i s t u b e
      split at hv
      · rename_i d2 p2 hu
        simp only [Option.some.injEq, Prod.mk.injEq, DataW.agg.injEq, List.cons.injEq, DataW.lit.injEq, Lit.int.injEq, Lit.string.injEq, true_and, and_true] at hv
        obtain ⟨⟨e1, e2, e3, e4⟩, _⟩ := hv
        subst e3
        have eu := rSl_one hu h
        subst e1 e2 eu
        unfold eV
        congr 1
        apply Array.toList_inj.1
        rw [e]
        simp only [List.cons.injEq, true_and, and_true]
        rw [← e4]
      · cases hv
    · cases hv
  · cases hv
theorem gdV_sub (X : List EV) (j : Nat) : ∀ x ∈ gdV (X.take j), x ∈ gdV X := by
  have h : ∀ (B acc : List EV), ∀ x ∈ acc, x ∈ B.foldl gdStep acc := by
    intro B
    induction B with
    | nil => intro acc x hx; exact hx
    | cons y t ih =>
      intro acc x hx
      rw [List.foldl_cons]
      refine ih _ x ?_
      unfold gdStep
      split
      · exact List.mem_append_left _ hx
      · exact hx
  intro x hx
  have e : gdV X = (X.drop j).foldl gdStep (gdV (X.take j)) := by
    unfold gdV
    rw [← List.foldl_append, List.take_append_drop]
  rw [e]
  exact h _ _ x hx
end Go.Icz
namespace Go.Proofs.YtaoeabnpmpimgaaDoor
open Go.RowKit Go.Icz Go.Maps Go.ChangeMaps Go.MapKept
/-- The map in block m has the entries E, each by its number. -/
def MEn (w : World) (m : Nat) (E : List EV) : Prop := ∃ D : DataW Unit, w.ownsMap Tryd.prog 3 rEn m E.length D ∧ (∀ k, Maps.has D (.int .i64 k) = decide (k ∈ E.map (·.1.seq))) ∧ Maps.size D = E.length ∧
  ∀ x ∈ E, ∃ d p, rSl (.slice x.2.1 x.1.labs.length x.2.2) = some (d, p) ∧ ∀ z, D.atKey (.int .i64 x.1.seq) z = .agg [.lit (.int .i64 x.1.seq), .lit (.int .i64 x.1.time), d, .lit (.string x.1.line)]
theorem MEn.touch {S : Nat → Prop} {w w' : World} {m : Nat} {E : List EV} (h : MEn w m E) (t : Tch S w w') (hS : ¬ S m) : MEn w' m E := by
  obtain ⟨D, h1, h2⟩ := h
  exact ⟨D, ownsMap_touch h1 t hS, h2⟩
theorem MEn.lt {w : World} {m : Nat} {E : List EV} (h : MEn w m E) : m < w.heap.size := by
  obtain ⟨D, h1, _⟩ := h
  exact h1.lt
theorem MEn.made (w : World) : MEn (w.alloc (.map #[] 0)) w.heap.size [] := ⟨.map [], World.ownsMap_made .., fun k => by simp; rfl, rfl, by simp⟩
/-- A number that is not there. -/
theorem MEn.no {w : World} {m : Nat} {E : List EV} (h : MEn w m E) (k : Int) (hk : wfI k) (hn : ¬ k ∈ E.map (·.1.seq)) : (Instr.lookup 48 (.map (some m)) (.int .i64 k) true).run Tryd.prog w = .ok (.tuple #[.agg #[.int .i64 0, .int .i64 0, .slice none 0 0, .string ⟨#[]⟩], .bool false]) w := by
  obtain ⟨D, ho, hh, _, _⟩ := h
  have hf : Maps.has D (.int .i64 k) = false := by rw [hh]; exact decide_eq_false hn
  obtain ⟨es, clock, hb, F, _, rfl⟩ := ho
  rcases Maps.fit_look true (int_keyed Tryd.underlying3) Tryd.underlying48 (Tryd.zeroValue50 w) hb F (keyI hk) with ⟨hrun, _, hat⟩ | ⟨e0, y, _, _, hrun, hRv, hat, _⟩
  · exact hrun
  · rw [Maps.has_true_of_atKey hat] at hf
    cases hf
/-- A number that is there. -/
theorem MEn.yes {w : World} {m : Nat} {E : List EV} (h : MEn w m E) {x : EV} (hx : x ∈ E) (hk : wfI x.1.seq) : (Instr.lookup 48 (.map (some m)) (.int .i64 x.1.seq) false).run Tryd.prog w = .ok (eV x) w := by
  obtain ⟨D, ho, _, _, hE⟩ := h
  obtain ⟨d, p, h1, h2⟩ := hE x hx
  obtain ⟨v, ps, hrun, hv⟩ := ho.lookup (int_keyed Tryd.underlying3) Tryd.underlying48 (Tryd.zeroValue50 w) (zd := _) (zp := _) rEn_zero (keyI hk)
  rw [h2] at hv
  rw [hrun, rEn_one (d' := d) h1 hv]
theorem MEn.store {w : World} {m : Nat} {E : List EV} (h : MEn w m E) (x : EV) (hk : wfI x.1.seq) (hn : ¬ x.1.seq ∈ E.map (·.1.seq)) {d : DataW Unit} {p : List MemPlace} (hs : rSl (.slice x.2.1 x.1.labs.length x.2.2) = some (d, p)) (hl : E.length < maxLen) :
    ∃ w', (Instr.mapUpdate 48 (.map (some m)) (.int .i64 x.1.seq) (eV x)).run Tryd.prog w = .ok () w' ∧ MEn w' m (E ++ [x]) ∧ Tch (· = m) w w' := by
  obtain ⟨D, ho, hh, hsz, hE⟩ := h
  have hf : Maps.has D (.int .i64 x.1.seq) = false := by rw [hh]; exact decide_eq_false hn
  obtain ⟨w', hrun, ho', ht⟩ := ho.store (int_keyed Tryd.underlying3) Tryd.underlying48 hl (keyI hk) (val := eV x) (d := _) (ps := []) (rEn_mk hs)
  have hsz2 := Maps.size_put (ho.tidy (int_keyed Tryd.underlying3)) (k := .int .i64 x.1.seq) (.agg [.lit (.int .i64 x.1.seq), .lit (.int .i64 x.1.time), d, .lit (.string x.1.line)])
  rw [hf] at hsz2
  refine ⟨w', hrun, ⟨_, by rw [List.length_append, List.length_singleton]; exact ho', fun j => ?_, by rw [hsz2, List.length_append, List.length_singleton, if_neg (by simp), hsz], fun y hy => ?_⟩, Tch.turned ht⟩
  · by_cases hj : j = x.1.seq
    · subst hj
      rw [Maps.has_put_same ho.isMap (il_key _)]
      simp
    · rw [Maps.has_put_other (il_ne hj), hh]
      simp [hj]
  · rcases List.mem_append.1 hy with hy | hy
    · have hne : y.1.seq ≠ x.1.seq := fun e => hn (e ▸ List.mem_map.2 ⟨y, hy, rfl⟩)
      obtain ⟨d', p', h1, h2⟩ := hE y hy
      exact ⟨d', p', h1, fun z => by rw [Maps.atKey_put_other (il_ne hne), h2]⟩
    · obtain rfl := List.mem_singleton.1 hy
      exact ⟨d, p, hs, fun z => Maps.atKey_put_same ho.isMap (il_key _) _ _⟩
theorem MEn.len {w : World} {m : Nat} {E : List EV} (h : MEn w m E) (ty : TypeId) : (Builtin.len_ #[48] ty #[.map (some m)]).run Tryd.prog w = .ok (.int .i64 (E.length : Nat)) w := by
  obtain ⟨D, ho, _, hsz, _⟩ := h
  rw [ho.len Tryd.underlying48 ty, hsz]
theorem rSl_own {α : Type} {K : Kd α} {w : World} {B : Nat} {v : Value} {l : List α} (h : K.Own w B v l) : ∃ d p, rSl v = some (d, p) := by
  rcases h.2 with ⟨rfl, _⟩ | ⟨k, cap, cur, rfl, _⟩
  · exact ⟨_, _, rfl⟩
  · exact ⟨_, _, rfl⟩
end Go.Proofs.YtaoeabnpmpimgaaDoor
end
section
namespace Go.Proofs.YtaoeabnpmpimgaaDoor
open Go.RowKit Go.Icz Go.Shelf
attribute [local go_sem] Oper.semAt_some
set_option maxRecDepth 100000
set_option maxHeartbeats 8000000
theorem md50 (t : Int) : ∃ n : Nat, 1 ≤ n ∧ n ≤ 50 ∧ wrap64 (1 + (wrap64 (t.tmod 50 + 50)).tmod 50) = (n : Int) := by
  have h1 : -50 < t.tmod 50 := by
    have := Int.tmod_lt_of_pos (-t) (b := 50) (by decide)
    rw [Int.neg_tmod] at this
    omega
  have h2 : t.tmod 50 < 50 := Int.tmod_lt_of_pos t (by decide)
  generalize t.tmod 50 = u at *
  have e1 : wrap64 (u + 50) = u + 50 := by unfold wrap64; omega
  rw [e1, Int.tmod_eq_emod_of_nonneg (by omega)]
  have h3 : 0 ≤ (u + 50) % 50 ∧ (u + 50) % 50 < 50 := by omega
  refine ⟨(1 + (u + 50) % 50).toNat, by omega, by omega, ?_⟩
  have e2 : wrap64 (1 + (u + 50) % 50) = 1 + (u + 50) % 50 := by unfold wrap64; omega
  rw [e2]
  omega
theorem all_walk (labs : List Lab) (rows : List CRow) (A A2 : Option Addr) (C C2 : Nat) (most : Int) (v : Value) (l : List Ent) (w : World) (hL : RdL w (.slice A labs.length C) labs) (hR : KRr.Rd w (.slice A2 rows.length C2) rows) (hlz : labs.length * 32 ≤ 140737488351232) (hrz : rows.length * 32 ≤ 140737488351232)
    (hls : ∀ y ∈ labs, y.1.length ≤ 9223372036854775807 ∧ y.2.length ≤ 9223372036854775807) (hz : ∀ x ∈ rows, entZ (entC labs x)) (hT : Tabs w) (hE : RdE w v l) (hzE : ∀ x ∈ l, entZ x) (hwf : ∀ x ∈ l, wfI x.seq) (hlen : l.length * 56 ≤ 140737488351232) :
    Calls Tryd.prog 4 #[.agg #[.slice A labs.length C, .slice A2 rows.length C2], .int .i64 most, v] w fun e w' => e = .returned (.bool true) ∧ Below w.heap.size w w' := by
  obtain ⟨W0, hW0⟩ : ∃ W0, W0 = w.alloc (.cells #[.slice A labs.length C, .slice A2 rows.length C2] 35) := ⟨_, rfl⟩
  have b0 : Below w.heap.size w W0 := by rw [hW0]; exact (Below.refl _ w).alloc (Nat.le_refl _) _
  have x0 : W0.heap[w.heap.size]? = some (.cells #[.slice A labs.length C, .slice A2 rows.length C2] 35 (0, 0)) := by rw [hW0]; exact heap_alloc_new w _
  have z0 : W0.heap.size = w.heap.size + 1 := by rw [hW0]; simp
  have HW0 := hid hW0
  clear hW0
  obtain ⟨n, hn1, hn2, hn⟩ := md50 most
  have hO := COwn_is labs rows A A2 C C2 _ (hL.below b0) (hR.below b0) hlz hrz
  unfold ChOut at hO
  have FA : Hid (∀ wx, Below W0.heap.size W0 wx → (wx.cell? ⟨w.heap.size, 0, none⟩ = some (.slice A labs.length C) ∧ wx.cell? ⟨w.heap.size, 1, none⟩ = some (.slice A2 rows.length C2)) ∧ RdL wx (.slice A labs.length C) labs ∧ KRr.Rd wx (.slice A2 rows.length C2) rows ∧ Tabs wx ∧ RdE wx v l ∧ Below w.heap.size w wx) := hid (fun wx h => by
    have hb : Below w.heap.size w wx := b0.trans (h.mono b0.size)
    have y := (h.block _ (row_lt x0)).trans x0
    exact ⟨⟨held_cell y rfl, held_cell y rfl⟩, hL.below hb, hR.below hb, hT.below hb, hE.below hb, hb⟩)
  have HSZ := hid (And.intro hlz (And.intro hrz (And.intro hls hz)))
  have HEN := hid (And.intro hzE (And.intro hwf hlen))
  have HB0 := hid b0
  obtain ⟨⟨e0, e1⟩, -⟩ := FA.out W0 (Below.refl _ _)
  rw [HW0.out] at hO e0 e1
  clear hL hR hlz hrz hls hz hT hE hzE hwf hlen x0 b0
  go_enter Tryd.func4, Tryd.ntmps4
  go_upto_region 2 with fail
  rw [hn]
  generalize (wrap64 (most.tmod 50 + 50)).tmod 50 = ux
  generalize wrap64 (most.tmod 50 + 50) = uy
  generalize most.tmod 50 = uz
  go_upto_region 3 with (first
    | (go_at_call 12; refine hO.mono ?_; rintro e w1 ⟨A1, c1, A3, c3, rfl, o1, o3, b1⟩; clear hO e0 e1; rw [← HW0.out] at b1 o1 o3
       have r1 := o1.rd
       have r3 := o3.rd
       have hSp := Split_is labs rows A1 A3 c1 c3 n w1 r1 r3 (FA.out w1 b1).2.2.2.1 HSZ.out.2.2.2 (by have := HSZ.out.2.1; omega) HSZ.out.1 (by omega)
       unfold PcOut at hSp
       clear o1 o3 r1 r3)
    | (go_at_call 11; refine hSp.mono ?_; rintro e w4 ⟨v4, m4, rfl, o4, hm4, b4⟩; have B4 := hid (b1.trans (b4.mono b1.size)); obtain ⟨A4, c4, rfl, _⟩ := o4.1.rd.form; clear hSp))
  have HO4 := hid o4.rd
  have HM4 := hid hm4
  obtain ⟨⟨e0, e1⟩, q1, q2, q3, -⟩ := FA.out w4 B4.out
  have hRt := R4Right_is labs rows A A2 C C2 w4 q1 q2 HSZ.out.1 HSZ.out.2.2.1
  clear o4 hm4 b1 b4 q1 q2 q3
  by_cases hf : chR labs rows = true
  · rw [hf] at hRt
    have HFR := hid hf
    have HMC : Hid (m4.map CV.bare = cutC labs rows n) := hid (by
      have := HM4.out
      unfold splC at this
      rw [if_pos ⟨by omega, hf⟩, Int.toNat_natCast] at this
      exact this)
    have HRN : Hid (rows.length ≤ 1000) := hid ((chR_iff labs rows).1 hf).1.2
    have hml : m4.length ≤ rows.length := by
      have := congrArg List.length HMC.out
      rw [List.length_map] at this
      have h2 := cutC_len labs rows n
      omega
    have hml2 : m4.length ≤ 1000 := by have := HRN.out; omega
    -- the i-th piece
    have HPI : Hid (∀ i (hi : i < m4.length), (m4[i]).labs = labs ∧ (m4[i]).rows.length ≤ n ∧ 1 ≤ (m4[i]).rows.length ∧ (i + 1 < m4.length → (m4[i]).rows.length = n) ∧ chR labs (m4[i]).rows = true ∧ ∀ x ∈ (m4[i]).rows, entZ (entC labs x)) := hid (fun i hi => by
      have hl : m4.length = (cutC labs rows n).length := by rw [← HMC.out, List.length_map]
      obtain ⟨q, h1, h2, h3, h4, h5⟩ := cutC_get (labs := labs) (rows := rows) (n := n) hn1 i (by omega)
      have e : (m4[i]).bare = (labs, pcAt rows q) := by
        rw [← h1]
        have h6 : (m4.map CV.bare)[i]'(by rw [List.length_map]; exact hi) = (cutC labs rows n)[i]'(by omega) := by simp only [HMC.out]
        rw [← h6, List.getElem_map]
      have e1 : (m4[i]).labs = labs := congrArg Prod.fst e
      have e2 : (m4[i]).rows = pcAt rows q := congrArg Prod.snd e
      have hlq : (pcAt rows q).length = q.2 := by unfold pcAt; rw [List.length_take, List.length_drop]; omega
      rw [e1, e2, hlq]
      exact ⟨rfl, h4, h2, fun h => h5 (by omega), chR_piece hf h2 h3, fun x hx => HSZ.out.2.2.2 x ((pcAt_sub _ _).subset hx)⟩)
    clear hml hf
    go_upto_region 7 with (first
      | (go_at_call 13; refine hRt.mono ?_; rintro e w5 ⟨rfl, b5⟩; clear hRt))
    have B5 := hid (B4.out.trans (b5.mono B4.out.size))
    have HO5 := hid (HO4.out.below b5)
    clear e0 e1 b5
    go_loopw [8, 9] (fun rv iv wr => ∃ (i : Nat) (acc : List CRow), iv = .int .i64 i ∧ i ≤ m4.length ∧ Hid (KRr.Own wr w5.heap.size rv acc) ∧ Hid (acc = (m4.take i).flatMap (·.rows)) ∧ Hid (Below w5.heap.size w5 wr)) (fun _ iv _ => m4.length - (intOf iv).toNat)
    case atStart => exact ⟨0, [], rfl, by omega, hid (Kd.Own.nil _ _), hid rfl, hid (Below.refl _ _)⟩
    case round =>
      obtain ⟨i, acc, rfl, hi, HAC, HAE, HW⟩ := hrel
      by_cases hil : i < m4.length
      · obtain ⟨b, off, hA4, hb4, hc4⟩ := HO5.out.1.at hil
        subst hA4
        have hpi := HPI.out i hil
        have hrd := HO5.out.2 _ (List.getElem_mem hil)
        have HXT : Hid (m4.take (i + 1) = m4.take i ++ [m4[i]]) := hid (List.take_succ_eq_append_getElem hil)
        have KP : Hid (∀ wx, Below w5.heap.size w5 wx → wx.cell? ⟨b, off + i * 2, none⟩ = some ((m4[i]).l) ∧ wx.cell? ⟨b, off + i * 2 + 1, none⟩ = some ((m4[i]).r)) := hid (fun wx h => ⟨(h.cell (p := ⟨b, off + i * 2, none⟩) hb4).trans (hc4 0 _ (by decide) rfl), (h.cell (p := ⟨b, off + i * 2 + 1, none⟩) hb4).trans (hc4 1 _ (by decide) rfl)⟩)
        have HIL := hid hil
        have HBL : Hid (acc.length ≤ 1000000) := hid (by
          have h1 : ∀ (L : List CV), (∀ y ∈ L, y.rows.length ≤ 1000) → (L.flatMap (·.rows)).length ≤ L.length * 1000 := fun L => by
            induction L with
            | nil => intro _; simp
            | cons a t ih =>
              intro h
              have := ih (fun y hy => h y (by simp [hy]))
              have := h a (by simp)
              rw [List.flatMap_cons, List.length_append, List.length_cons]
              omega
          have h2 := h1 (m4.take i) (fun y hy => by
            obtain ⟨j, hj, e⟩ := List.mem_iff_getElem.1 (List.mem_of_mem_take hy)
            have := (HPI.out j hj).2.1
            rw [e] at this
            have := HRN.out
            omega)
          rw [← HAE.out, List.length_take] at h2
          omega)
        generalize m4[i] = x at *
        obtain ⟨xl, xA, xc, xr, xA2, xc2⟩ := x
        obtain ⟨rfl, p2, p3, p4, p5, p6⟩ := hpi
        simp only at p2 p3 p4
        have KR := fun wx (h0 : Below wr.heap.size wr wx) => (fun (h : Below w5.heap.size w5 wx) => CRight_is xl xr xA xA2 xc xc2 wx (hrd.1.below h) (hrd.2.below h) (FA.out wx (B5.out.trans (h.mono B5.out.size))).2.2.2.1 p6 (by have := HRN.out; omega)) (HW.out.trans (h0.mono HW.out.size))
        have KS := fun wx (h0 : Below wr.heap.size wr wx) => (fun (h : Below w5.heap.size w5 wx) => Same_is (.slice xA xl.length xc) (.slice A xl.length C) xl xl wx (hrd.1.below h) (FA.out wx (B5.out.trans (h.mono B5.out.size))).2.1 (by have := HSZ.out.1; simp only at this; omega)) (HW.out.trans (h0.mono HW.out.size))
        simp only [p5, decide_true] at KR KS
        unfold CV.l CV.r at KP
        simp only at KP
        have mkS : ∀ wx, Below wr.heap.size wr wx → Below wr.heap.size wr wx ∧ (wx.cell? ⟨b, off + i * 2, none⟩ = some (.slice xA xl.length xc) ∧ wx.cell? ⟨b, off + i * 2 + 1, none⟩ = some (.slice xA2 xr.length xc2)) ∧ wx.cell? ⟨w.heap.size, 0, none⟩ = some (.slice A xl.length C) := fun wx h0 => ⟨h0, KP.out wx (HW.out.trans (h0.mono HW.out.size)), (FA.out wx (B5.out.trans ((HW.out.trans (h0.mono HW.out.size)).mono B5.out.size))).1.1⟩
        have hk9 := mkS wr.drew (Below.refl _ _).drew
        have MK := hid mkS
        have g1p : (xr.length : Int) ≤ (n : Int) := by omega
        have g1 : decide ((n : Int) < (xr.length : Int)) = false := decide_eq_false (by omega)
        have zi : IntKind.i64.wrap ((m4.length : Int) - 1) = (m4.length : Int) - 1 := by rw [IntKind.wrap_i64]; omega
        have hrl : Hid (xr.length ≤ 1000) := hid (by have := HRN.out; omega)
        have HRD := hid hrd.2
        have KX : Hid (∀ wx, Below w5.heap.size w5 wx → wx.cell? ⟨b, off + i * 2 + 1, none⟩ = some (.slice xA2 xr.length xc2)) := hid (fun wx h => (KP.out wx h).2)
        clear hc4 hb4 mkS p5 p6 hrd hil
        by_cases hlast : i + 1 < m4.length
        · have g2p : (i : Int) < (m4.length : Int) - 1 := by omega
          have g3p : (n : Int) ≤ (xr.length : Int) := by have := p4 hlast; omega
          have g2 : decide ((i : Int) < (m4.length : Int) - 1) = true := decide_eq_true (by omega)
          have g3 : decide ((xr.length : Int) < (n : Int)) = false := decide_eq_false (by have := p4 hlast; omega)
          clear p4
          go_wp2_with fail
          refine wp_region_held_drew (S := fun wx => Below wr.heap.size wr wx ∧ (wx.cell? ⟨b, off + i * 2, none⟩ = some (.slice xA xl.length xc) ∧ wx.cell? ⟨b, off + i * 2 + 1, none⟩ = some (.slice xA2 xr.length xc2)) ∧ wx.cell? ⟨w.heap.size, 0, none⟩ = some (.slice A xl.length C)) (by kernel_rfl) hk9 (fun hHeld => ?_)
          refine takeAt (i := 0) (d := 45) (v := .slice (some ⟨b, off, none⟩) m4.length c4) rfl rfl (by kernel_rfl) (by kernel_rfl) (by kernel_rfl) (fun _ _ _ h => h) (Or.inl ⟨by rfl, fun wS hSw => by obtain ⟨-, ⟨s0, s1⟩, s2⟩ := hSw; go_simp; first | done | assumption | omega | (simp; omega)⟩) hHeld ?_
          try simp only [List.setIfInBounds_toArray, List.set_cons_zero, List.set_cons_succ]
          refine takeAt (i := 1) (d := 46) (v := .int .i64 (i : Int)) rfl rfl (by kernel_rfl) (by kernel_rfl) (by kernel_rfl) (fun _ _ _ h => h) (Or.inl ⟨by rfl, fun wS hSw => by obtain ⟨-, ⟨s0, s1⟩, s2⟩ := hSw; go_simp; first | done | assumption | omega | (simp; omega)⟩) hHeld ?_
          try simp only [List.setIfInBounds_toArray, List.set_cons_zero, List.set_cons_succ]
          refine takeAt (i := 2) (d := 47) (v := .pointer (some ⟨b, off + i * 2, none⟩)) rfl rfl (by kernel_rfl) (by kernel_rfl) (by kernel_rfl) (fun _ _ _ h => h) (Or.inl ⟨by rfl, fun wS hSw => by obtain ⟨-, ⟨s0, s1⟩, s2⟩ := hSw; go_simp; first | done | assumption | omega | (simp; omega)⟩) hHeld ?_
          try simp only [List.setIfInBounds_toArray, List.set_cons_zero, List.set_cons_succ]
          refine takeAt (i := 3) (d := 48) (v := .agg #[.slice xA xl.length xc, .slice xA2 xr.length xc2]) rfl rfl (by kernel_rfl) (by kernel_rfl) (by kernel_rfl) (fun _ _ _ h => h) (Or.inl ⟨by rfl, fun wS hSw => by obtain ⟨-, ⟨s0, s1⟩, s2⟩ := hSw; go_simp; first | done | assumption | omega | (simp; omega)⟩) hHeld ?_
          try simp only [List.setIfInBounds_toArray, List.set_cons_zero, List.set_cons_succ]
          refine wpAnyH_ready (rs := [4]) (by kernel_rfl) (by simp) ?_
          refine AllReadyH.cons rfl (fun K hK => ?_) AllReadyH.nil
          try rw [if_pos (by rfl)]
          go_simp
          go_at_call 14
          refine (KR _ hHeld.1).mono ?_
          rintro e w6 ⟨rfl, b6⟩
          refine hK.out _ _ (MK.out _ (hHeld.1.trans (b6.mono hHeld.1.size))) (fun hHeld => ?_)
          clear hK K
          try simp only [Act.put, List.setIfInBounds_toArray, List.set_cons_zero, List.set_cons_succ]
          refine takeAt (i := 5) (d := 50) (v := .bool false) rfl rfl (by kernel_rfl) (by kernel_rfl) (by kernel_rfl) (fun _ _ _ h => h) (Or.inl ⟨by rfl, fun wS hSw => by obtain ⟨-, ⟨s0, s1⟩, s2⟩ := hSw; go_simp; first | done | assumption | omega | (simp; omega)⟩) hHeld ?_
          try simp only [List.setIfInBounds_toArray, List.set_cons_zero, List.set_cons_succ]
          refine takeAt (i := 6) (d := 51) (v := .bool false) rfl rfl (by kernel_rfl) (by kernel_rfl) (by kernel_rfl) (fun _ _ _ h => h) (Or.inl ⟨by rfl, fun wS hSw => by obtain ⟨-, ⟨s0, s1⟩, s2⟩ := hSw; go_simp; first | done | assumption | omega | (simp; omega)⟩) hHeld ?_
          try simp only [List.setIfInBounds_toArray, List.set_cons_zero, List.set_cons_succ]
          refine takeAt (i := 7) (d := 52) (v := .slice (some ⟨b, off, none⟩) m4.length c4) rfl rfl (by kernel_rfl) (by kernel_rfl) (by kernel_rfl) (fun _ _ _ h => h) (Or.inl ⟨by rfl, fun wS hSw => by obtain ⟨-, ⟨s0, s1⟩, s2⟩ := hSw; go_simp; first | done | assumption | omega | (simp; omega)⟩) hHeld ?_
          try simp only [List.setIfInBounds_toArray, List.set_cons_zero, List.set_cons_succ]
          refine takeAt (i := 8) (d := 53) (v := .int .i64 (i : Int)) rfl rfl (by kernel_rfl) (by kernel_rfl) (by kernel_rfl) (fun _ _ _ h => h) (Or.inl ⟨by rfl, fun wS hSw => by obtain ⟨-, ⟨s0, s1⟩, s2⟩ := hSw; go_simp; first | done | assumption | omega | (simp; omega)⟩) hHeld ?_
          try simp only [List.setIfInBounds_toArray, List.set_cons_zero, List.set_cons_succ]
          refine takeAt (i := 9) (d := 54) (v := .pointer (some ⟨b, off + i * 2, none⟩)) rfl rfl (by kernel_rfl) (by kernel_rfl) (by kernel_rfl) (fun _ _ _ h => h) (Or.inl ⟨by rfl, fun wS hSw => by obtain ⟨-, ⟨s0, s1⟩, s2⟩ := hSw; go_simp; first | done | assumption | omega | (simp; omega)⟩) hHeld ?_
          try simp only [List.setIfInBounds_toArray, List.set_cons_zero, List.set_cons_succ]
          refine takeAt (i := 10) (d := 55) (v := .pointer (some ⟨b, off + i * 2 + 1, none⟩)) rfl rfl (by kernel_rfl) (by kernel_rfl) (by kernel_rfl) (fun _ _ _ h => h) (Or.inl ⟨by rfl, fun wS hSw => by obtain ⟨-, ⟨s0, s1⟩, s2⟩ := hSw; go_simp; first | done | assumption | omega | (simp; omega)⟩) hHeld ?_
          try simp only [List.setIfInBounds_toArray, List.set_cons_zero, List.set_cons_succ]
          refine takeAt (i := 11) (d := 56) (v := .slice xA2 xr.length xc2) rfl rfl (by kernel_rfl) (by kernel_rfl) (by kernel_rfl) (fun _ _ _ h => h) (Or.inl ⟨by rfl, fun wS hSw => by obtain ⟨-, ⟨s0, s1⟩, s2⟩ := hSw; go_simp; first | done | assumption | omega | (simp; omega)⟩) hHeld ?_
          try simp only [List.setIfInBounds_toArray, List.set_cons_zero, List.set_cons_succ]
          refine takeAt (i := 12) (d := 57) (v := .int .i64 (xr.length : Int)) rfl rfl (by kernel_rfl) (by kernel_rfl) (by kernel_rfl) (fun _ _ _ h => h) (Or.inl ⟨by rfl, fun wS hSw => by obtain ⟨-, ⟨s0, s1⟩, s2⟩ := hSw; go_simp; first | done | assumption | omega | (simp; omega)⟩) hHeld ?_
          try simp only [List.setIfInBounds_toArray, List.set_cons_zero, List.set_cons_succ]
          refine takeAt (i := 13) (d := 58) (v := .int .i64 (n : Int)) rfl rfl (by kernel_rfl) (by kernel_rfl) (by kernel_rfl) (fun _ _ _ h => h) (Or.inl ⟨by rfl, fun wS hSw => by obtain ⟨-, ⟨s0, s1⟩, s2⟩ := hSw; go_simp; first | done | assumption | omega | (simp; omega)⟩) hHeld ?_
          try simp only [List.setIfInBounds_toArray, List.set_cons_zero, List.set_cons_succ]
          refine takeAt (i := 14) (d := 59) (v := .bool false) rfl rfl (by kernel_rfl) (by kernel_rfl) (by kernel_rfl) (fun _ _ _ h => h) (Or.inl ⟨by rfl, fun wS hSw => by obtain ⟨-, ⟨s0, s1⟩, s2⟩ := hSw; go_simp; first | done | assumption | omega | (simp; omega)⟩) hHeld ?_
          try simp only [List.setIfInBounds_toArray, List.set_cons_zero, List.set_cons_succ]
          refine takeAt (i := 15) (d := 60) (v := .bool false) rfl rfl (by kernel_rfl) (by kernel_rfl) (by kernel_rfl) (fun _ _ _ h => h) (Or.inl ⟨by rfl, fun wS hSw => by obtain ⟨-, ⟨s0, s1⟩, s2⟩ := hSw; go_simp; first | done | assumption | omega | (simp; omega)⟩) hHeld ?_
          try simp only [List.setIfInBounds_toArray, List.set_cons_zero, List.set_cons_succ]
          refine takeAt (i := 16) (d := 61) (v := .bool false) rfl rfl (by kernel_rfl) (by kernel_rfl) (by kernel_rfl) (fun _ _ _ h => h) (Or.inl ⟨by rfl, fun wS hSw => by obtain ⟨-, ⟨s0, s1⟩, s2⟩ := hSw; go_simp; first | done | assumption | omega | (simp; omega)⟩) hHeld ?_
          try simp only [List.setIfInBounds_toArray, List.set_cons_zero, List.set_cons_succ]
          refine takeAt (i := 17) (d := 62) (v := .int .i64 (i : Int)) rfl rfl (by kernel_rfl) (by kernel_rfl) (by kernel_rfl) (fun _ _ _ h => h) (Or.inl ⟨by rfl, fun wS hSw => by obtain ⟨-, ⟨s0, s1⟩, s2⟩ := hSw; go_simp; first | done | assumption | omega | (simp; omega)⟩) hHeld ?_
          try simp only [List.setIfInBounds_toArray, List.set_cons_zero, List.set_cons_succ]
          refine takeAt (i := 18) (d := 63) (v := .slice (some ⟨b, off, none⟩) m4.length c4) rfl rfl (by kernel_rfl) (by kernel_rfl) (by kernel_rfl) (fun _ _ _ h => h) (Or.inl ⟨by rfl, fun wS hSw => by obtain ⟨-, ⟨s0, s1⟩, s2⟩ := hSw; go_simp; first | done | assumption | omega | (simp; omega)⟩) hHeld ?_
          try simp only [List.setIfInBounds_toArray, List.set_cons_zero, List.set_cons_succ]
          refine takeAt (i := 19) (d := 64) (v := .int .i64 (m4.length : Int)) rfl rfl (by kernel_rfl) (by kernel_rfl) (by kernel_rfl) (fun _ _ _ h => h) (Or.inl ⟨by rfl, fun wS hSw => by obtain ⟨-, ⟨s0, s1⟩, s2⟩ := hSw; go_simp; first | done | assumption | omega | (simp; omega)⟩) hHeld ?_
          try simp only [List.setIfInBounds_toArray, List.set_cons_zero, List.set_cons_succ]
          refine takeAt (i := 20) (d := 65) (v := .int .i64 ((m4.length : Int) - 1)) rfl rfl (by kernel_rfl) (by kernel_rfl) (by kernel_rfl) (fun _ _ _ h => h) (Or.inl ⟨by rfl, fun wS hSw => by obtain ⟨-, ⟨s0, s1⟩, s2⟩ := hSw; go_simp; first | done | assumption | omega | (simp; omega)⟩) hHeld ?_
          try simp only [List.setIfInBounds_toArray, List.set_cons_zero, List.set_cons_succ]
          refine takeAt (i := 21) (d := 66) (v := .bool true) rfl rfl (by kernel_rfl) (by kernel_rfl) (by kernel_rfl) (fun _ _ _ h => h) (Or.inl ⟨by rfl, fun wS hSw => by obtain ⟨-, ⟨s0, s1⟩, s2⟩ := hSw; go_simp; first | done | assumption | omega | (simp; omega)⟩) hHeld ?_
          try simp only [List.setIfInBounds_toArray, List.set_cons_zero, List.set_cons_succ]
          refine takeAt (i := 22) (d := 67) (v := .bool true) rfl rfl (by kernel_rfl) (by kernel_rfl) (by kernel_rfl) (fun _ _ _ h => h) (Or.inl ⟨by rfl, fun wS hSw => by obtain ⟨-, ⟨s0, s1⟩, s2⟩ := hSw; go_simp; first | done | assumption | omega | (simp; omega)⟩) hHeld ?_
          try simp only [List.setIfInBounds_toArray, List.set_cons_zero, List.set_cons_succ]
          refine takeAt (i := 23) (d := 68) (v := .slice (some ⟨b, off, none⟩) m4.length c4) rfl rfl (by kernel_rfl) (by kernel_rfl) (by kernel_rfl) (fun _ _ _ h => h) (Or.inl ⟨by rfl, fun wS hSw => by obtain ⟨-, ⟨s0, s1⟩, s2⟩ := hSw; go_simp; first | done | assumption | omega | (simp; omega)⟩) hHeld ?_
          try simp only [List.setIfInBounds_toArray, List.set_cons_zero, List.set_cons_succ]
          refine takeAt (i := 24) (d := 69) (v := .int .i64 (i : Int)) rfl rfl (by kernel_rfl) (by kernel_rfl) (by kernel_rfl) (fun _ _ _ h => h) (Or.inl ⟨by rfl, fun wS hSw => by obtain ⟨-, ⟨s0, s1⟩, s2⟩ := hSw; go_simp; first | done | assumption | omega | (simp; omega)⟩) hHeld ?_
          try simp only [List.setIfInBounds_toArray, List.set_cons_zero, List.set_cons_succ]
          refine takeAt (i := 25) (d := 70) (v := .pointer (some ⟨b, off + i * 2, none⟩)) rfl rfl (by kernel_rfl) (by kernel_rfl) (by kernel_rfl) (fun _ _ _ h => h) (Or.inl ⟨by rfl, fun wS hSw => by obtain ⟨-, ⟨s0, s1⟩, s2⟩ := hSw; go_simp; first | done | assumption | omega | (simp; omega)⟩) hHeld ?_
          try simp only [List.setIfInBounds_toArray, List.set_cons_zero, List.set_cons_succ]
          refine takeAt (i := 26) (d := 71) (v := .pointer (some ⟨b, off + i * 2 + 1, none⟩)) rfl rfl (by kernel_rfl) (by kernel_rfl) (by kernel_rfl) (fun _ _ _ h => h) (Or.inl ⟨by rfl, fun wS hSw => by obtain ⟨-, ⟨s0, s1⟩, s2⟩ := hSw; go_simp; first | done | assumption | omega | (simp; omega)⟩) hHeld ?_
          try simp only [List.setIfInBounds_toArray, List.set_cons_zero, List.set_cons_succ]
          refine takeAt (i := 27) (d := 72) (v := .slice xA2 xr.length xc2) rfl rfl (by kernel_rfl) (by kernel_rfl) (by kernel_rfl) (fun _ _ _ h => h) (Or.inl ⟨by rfl, fun wS hSw => by obtain ⟨-, ⟨s0, s1⟩, s2⟩ := hSw; go_simp; first | done | assumption | omega | (simp; omega)⟩) hHeld ?_
          try simp only [List.setIfInBounds_toArray, List.set_cons_zero, List.set_cons_succ]
          refine takeAt (i := 28) (d := 73) (v := .int .i64 (xr.length : Int)) rfl rfl (by kernel_rfl) (by kernel_rfl) (by kernel_rfl) (fun _ _ _ h => h) (Or.inl ⟨by rfl, fun wS hSw => by obtain ⟨-, ⟨s0, s1⟩, s2⟩ := hSw; go_simp; first | done | assumption | omega | (simp; omega)⟩) hHeld ?_
          try simp only [List.setIfInBounds_toArray, List.set_cons_zero, List.set_cons_succ]
          refine takeAt (i := 29) (d := 74) (v := .int .i64 (n : Int)) rfl rfl (by kernel_rfl) (by kernel_rfl) (by kernel_rfl) (fun _ _ _ h => h) (Or.inl ⟨by rfl, fun wS hSw => by obtain ⟨-, ⟨s0, s1⟩, s2⟩ := hSw; go_simp; first | done | assumption | omega | (simp; omega)⟩) hHeld ?_
          try simp only [List.setIfInBounds_toArray, List.set_cons_zero, List.set_cons_succ]
          refine takeAt (i := 30) (d := 75) (v := .bool false) rfl rfl (by kernel_rfl) (by kernel_rfl) (by kernel_rfl) (fun _ _ _ h => h) (Or.inl ⟨by rfl, fun wS hSw => by obtain ⟨-, ⟨s0, s1⟩, s2⟩ := hSw; go_simp; first | done | assumption | omega | (simp; omega)⟩) hHeld ?_
          try simp only [List.setIfInBounds_toArray, List.set_cons_zero, List.set_cons_succ]
          refine takeAt (i := 31) (d := 76) (v := .bool false) rfl rfl (by kernel_rfl) (by kernel_rfl) (by kernel_rfl) (fun _ _ _ h => h) (Or.inl ⟨by rfl, fun wS hSw => by obtain ⟨-, ⟨s0, s1⟩, s2⟩ := hSw; go_simp; first | done | assumption | omega | (simp; omega)⟩) hHeld ?_
          try simp only [List.setIfInBounds_toArray, List.set_cons_zero, List.set_cons_succ]
          refine takeAt (i := 32) (d := 77) (v := .bool false) rfl rfl (by kernel_rfl) (by kernel_rfl) (by kernel_rfl) (fun _ _ _ h => h) (Or.inl ⟨by rfl, fun wS hSw => by obtain ⟨-, ⟨s0, s1⟩, s2⟩ := hSw; go_simp; first | done | assumption | omega | (simp; omega)⟩) hHeld ?_
          try simp only [List.setIfInBounds_toArray, List.set_cons_zero, List.set_cons_succ]
          refine takeAt (i := 33) (d := 78) (v := .bool false) rfl rfl (by kernel_rfl) (by kernel_rfl) (by kernel_rfl) (fun _ _ _ h => h) (Or.inl ⟨by rfl, fun wS hSw => by obtain ⟨-, ⟨s0, s1⟩, s2⟩ := hSw; go_simp; first | done | assumption | omega | (simp; omega)⟩) hHeld ?_
          try simp only [List.setIfInBounds_toArray, List.set_cons_zero, List.set_cons_succ]
          refine takeAt (i := 34) (d := 79) (v := .slice (some ⟨b, off, none⟩) m4.length c4) rfl rfl (by kernel_rfl) (by kernel_rfl) (by kernel_rfl) (fun _ _ _ h => h) (Or.inl ⟨by rfl, fun wS hSw => by obtain ⟨-, ⟨s0, s1⟩, s2⟩ := hSw; go_simp; first | done | assumption | omega | (simp; omega)⟩) hHeld ?_
          try simp only [List.setIfInBounds_toArray, List.set_cons_zero, List.set_cons_succ]
          refine takeAt (i := 35) (d := 80) (v := .int .i64 (i : Int)) rfl rfl (by kernel_rfl) (by kernel_rfl) (by kernel_rfl) (fun _ _ _ h => h) (Or.inl ⟨by rfl, fun wS hSw => by obtain ⟨-, ⟨s0, s1⟩, s2⟩ := hSw; go_simp; first | done | assumption | omega | (simp; omega)⟩) hHeld ?_
          try simp only [List.setIfInBounds_toArray, List.set_cons_zero, List.set_cons_succ]
          refine takeAt (i := 36) (d := 81) (v := .pointer (some ⟨b, off + i * 2, none⟩)) rfl rfl (by kernel_rfl) (by kernel_rfl) (by kernel_rfl) (fun _ _ _ h => h) (Or.inl ⟨by rfl, fun wS hSw => by obtain ⟨-, ⟨s0, s1⟩, s2⟩ := hSw; go_simp; first | done | assumption | omega | (simp; omega)⟩) hHeld ?_
          try simp only [List.setIfInBounds_toArray, List.set_cons_zero, List.set_cons_succ]
          refine takeAt (i := 37) (d := 82) (v := .pointer (some ⟨b, off + i * 2, none⟩)) rfl rfl (by kernel_rfl) (by kernel_rfl) (by kernel_rfl) (fun _ _ _ h => h) (Or.inl ⟨by rfl, fun wS hSw => by obtain ⟨-, ⟨s0, s1⟩, s2⟩ := hSw; go_simp; first | done | assumption | omega | (simp; omega)⟩) hHeld ?_
          try simp only [List.setIfInBounds_toArray, List.set_cons_zero, List.set_cons_succ]
          refine takeAt (i := 38) (d := 83) (v := .slice xA xl.length xc) rfl rfl (by kernel_rfl) (by kernel_rfl) (by kernel_rfl) (fun _ _ _ h => h) (Or.inl ⟨by rfl, fun wS hSw => by obtain ⟨-, ⟨s0, s1⟩, s2⟩ := hSw; go_simp; first | done | assumption | omega | (simp; omega)⟩) hHeld ?_
          try simp only [List.setIfInBounds_toArray, List.set_cons_zero, List.set_cons_succ]
          refine takeAt (i := 39) (d := 84) (v := .pointer (some ⟨w.heap.size, 0, none⟩)) rfl rfl (by kernel_rfl) (by kernel_rfl) (by kernel_rfl) (fun _ _ _ h => h) (Or.inl ⟨by rfl, fun wS hSw => by obtain ⟨-, ⟨s0, s1⟩, s2⟩ := hSw; go_simp; first | done | assumption | omega | (simp; omega)⟩) hHeld ?_
          try simp only [List.setIfInBounds_toArray, List.set_cons_zero, List.set_cons_succ]
          refine takeAt (i := 40) (d := 85) (v := .slice A xl.length C) rfl rfl (by kernel_rfl) (by kernel_rfl) (by kernel_rfl) (fun _ _ _ h => h) (Or.inl ⟨by rfl, fun wS hSw => by obtain ⟨-, ⟨s0, s1⟩, s2⟩ := hSw; go_simp; first | done | assumption | omega | (simp; omega)⟩) hHeld ?_
          try simp only [List.setIfInBounds_toArray, List.set_cons_zero, List.set_cons_succ]
          refine wpAnyH_ready (rs := [41]) (by kernel_rfl) (by simp) ?_
          refine AllReadyH.cons rfl (fun K hK => ?_) AllReadyH.nil
          try rw [if_pos (by rfl)]
          go_simp
          go_at_call 15
          refine (KS _ hHeld.1).mono ?_
          rintro e w7 ⟨rfl, b7⟩
          refine hK.out _ _ (MK.out _ (hHeld.1.trans (b7.mono hHeld.1.size))) (fun hHeld => ?_)
          clear hK K
          try simp only [Act.put, List.setIfInBounds_toArray, List.set_cons_zero, List.set_cons_succ]
          refine takeAt (i := 42) (d := 87) (v := .bool false) rfl rfl (by kernel_rfl) (by kernel_rfl) (by kernel_rfl) (fun _ _ _ h => h) (Or.inl ⟨by rfl, fun wS hSw => by obtain ⟨-, ⟨s0, s1⟩, s2⟩ := hSw; go_simp; first | done | assumption | omega | (simp; omega)⟩) hHeld ?_
          try simp only [List.setIfInBounds_toArray, List.set_cons_zero, List.set_cons_succ]
          refine takeAt (i := 43) (d := 88) (v := .bool false) rfl rfl (by kernel_rfl) (by kernel_rfl) (by kernel_rfl) (fun _ _ _ h => h) (Or.inl ⟨by rfl, fun wS hSw => by obtain ⟨-, ⟨s0, s1⟩, s2⟩ := hSw; go_simp; first | done | assumption | omega | (simp; omega)⟩) hHeld ?_
          try simp only [List.setIfInBounds_toArray, List.set_cons_zero, List.set_cons_succ]
          refine wpAnyH_done (by kernel_rfl) ?_ _
          have HA7 := hid (HAC.out.below hHeld.1)
          have HW7 := hid (HW.out.trans (hHeld.1.mono HW.out.size))
          clear hHeld hk9
          go_wp2_with fail
          go_loopw [8, 10] (fun rv kv wi => ∃ (k : Nat) (acc2 : List CRow), kv = .int .i64 k ∧ k ≤ xr.length ∧ Hid (KRr.Own wi w5.heap.size rv acc2) ∧ Hid (acc2 = acc ++ xr.take k) ∧ Hid (Below w5.heap.size w5 wi)) (fun _ kv _ => xr.length - (intOf kv).toNat)
          case atStart => exact ⟨0, acc, rfl, by omega, HA7, hid (by simp), HW7⟩
          case round =>
            obtain ⟨k, acc2, rfl, hk, HA2, HE2, HW2⟩ := hrel
            have hxr := hrl.out
            have c1 := KX.out wr HW2.out
            by_cases hkl : k < xr.length
            · obtain ⟨bR, oR, hxA2, hbR, hcR⟩ := HRD.out.at hkl
              subst hxA2
              have HXT2 : Hid (xr.take (k + 1) = xr.take k ++ [xr[k]]) := hid (List.take_succ_eq_append_getElem hkl)
              have SD : Hid (∀ wx, Below w5.heap.size w5 wx → (wx.cell? ⟨b, off + i * 2 + 1, none⟩ = some (.slice (some ⟨bR, oR, none⟩) xr.length xc2)) ∧ wx.cell? ⟨bR, oR + k * 3, none⟩ = some (.int .i64 xr[k].seq) ∧ wx.cell? ⟨bR, oR + k * 3 + 1, none⟩ = some (.int .i64 xr[k].time) ∧ wx.cell? ⟨bR, oR + k * 3 + 2, none⟩ = some (.string ⟨xr[k].line.toArray⟩)) := hid (fun wx h => ⟨KX.out wx h, (h.cell (p := ⟨bR, oR + k * 3, none⟩) hbR).trans (hcR 0 _ (by decide) rfl), (h.cell (p := ⟨bR, oR + k * 3 + 1, none⟩) hbR).trans (hcR 1 _ (by decide) rfl), (h.cell (p := ⟨bR, oR + k * 3 + 2, none⟩) hbR).trans (hcR 2 _ (by decide) rfl)⟩)
              have SC : Hid (∀ wx, Below wr.heap.size wr wx → (wx.cell? ⟨b, off + i * 2 + 1, none⟩ = some (.slice (some ⟨bR, oR, none⟩) xr.length xc2)) ∧ wx.cell? ⟨bR, oR + k * 3, none⟩ = some (.int .i64 xr[k].seq) ∧ wx.cell? ⟨bR, oR + k * 3 + 1, none⟩ = some (.int .i64 xr[k].time) ∧ wx.cell? ⟨bR, oR + k * 3 + 2, none⟩ = some (.string ⟨xr[k].line.toArray⟩)) := hid (fun wx h => SD.out wx (HW2.out.trans (h.mono HW2.out.size)))
              have LAC : Hid (acc2.length + 1 ≤ 1048576) := hid (by
                have h1 := HBL.out
                rw [HE2.out, List.length_append, List.length_take]
                omega)
              have HKL := hid hkl
              have hkI : (k : Int) < (xr.length : Int) := by omega
              generalize xr[k] = y at *
              clear hcR hbR hkl
              go_wp2_with fail
              refine wp_region_L 31 (fun wx => (wx.cell? ⟨b, off + i * 2 + 1, none⟩ = some (.slice (some ⟨bR, oR, none⟩) xr.length xc2)) ∧ wx.cell? ⟨bR, oR + k * 3, none⟩ = some (.int .i64 y.seq) ∧ wx.cell? ⟨bR, oR + k * 3 + 1, none⟩ = some (.int .i64 y.time) ∧ wx.cell? ⟨bR, oR + k * 3 + 2, none⟩ = some (.string ⟨y.line.toArray⟩)) (by kernel_rfl) ?_
              refine takeL (i := 0) (d := 99) (v := u8) rfl rfl (by kernel_rfl) (by kernel_rfl) (by kernel_rfl) (by kernel_rfl) (by kernel_rfl) (fun _ _ _ h => h) (Or.inl ⟨by rfl, fun wS hSw => by obtain ⟨s0, s1, s2, s3⟩ := hSw; go_simp; first | done | assumption | omega | (simp; omega)⟩) (SC.out _ (Below.refl _ _).drew) ?_
              try simp only [List.setIfInBounds_toArray, List.set_cons_zero, List.set_cons_succ]
              refine takeL (i := 1) (d := 100) (v := .slice (some ⟨b, off, none⟩) m4.length c4) rfl rfl (by kernel_rfl) (by kernel_rfl) (by kernel_rfl) (by kernel_rfl) (by kernel_rfl) (fun _ _ _ h => h) (Or.inl ⟨by rfl, fun wS hSw => by obtain ⟨s0, s1, s2, s3⟩ := hSw; go_simp; first | done | assumption | omega | (simp; omega)⟩) (SC.out _ (Below.refl _ _).drew) ?_
              try simp only [List.setIfInBounds_toArray, List.set_cons_zero, List.set_cons_succ]
              refine takeL (i := 2) (d := 101) (v := .int .i64 (i : Int)) rfl rfl (by kernel_rfl) (by kernel_rfl) (by kernel_rfl) (by kernel_rfl) (by kernel_rfl) (fun _ _ _ h => h) (Or.inl ⟨by rfl, fun wS hSw => by obtain ⟨s0, s1, s2, s3⟩ := hSw; go_simp; first | done | assumption | omega | (simp; omega)⟩) (SC.out _ (Below.refl _ _).drew) ?_
              try simp only [List.setIfInBounds_toArray, List.set_cons_zero, List.set_cons_succ]
              refine takeL (i := 3) (d := 102) (v := .pointer (some ⟨b, off + i * 2, none⟩)) rfl rfl (by kernel_rfl) (by kernel_rfl) (by kernel_rfl) (by kernel_rfl) (by kernel_rfl) (fun _ _ _ h => h) (Or.inl ⟨by rfl, fun wS hSw => by obtain ⟨s0, s1, s2, s3⟩ := hSw; go_simp; first | done | assumption | omega | (simp; omega)⟩) (SC.out _ (Below.refl _ _).drew) ?_
              try simp only [List.setIfInBounds_toArray, List.set_cons_zero, List.set_cons_succ]
              refine takeL (i := 4) (d := 103) (v := .pointer (some ⟨b, off + i * 2 + 1, none⟩)) rfl rfl (by kernel_rfl) (by kernel_rfl) (by kernel_rfl) (by kernel_rfl) (by kernel_rfl) (fun _ _ _ h => h) (Or.inl ⟨by rfl, fun wS hSw => by obtain ⟨s0, s1, s2, s3⟩ := hSw; go_simp; first | done | assumption | omega | (simp; omega)⟩) (SC.out _ (Below.refl _ _).drew) ?_
              try simp only [List.setIfInBounds_toArray, List.set_cons_zero, List.set_cons_succ]
              refine takeL (i := 5) (d := 104) (v := .slice (some ⟨bR, oR, none⟩) xr.length xc2) rfl rfl (by kernel_rfl) (by kernel_rfl) (by kernel_rfl) (by kernel_rfl) (by kernel_rfl) (fun _ _ _ h => h) (Or.inl ⟨by rfl, fun wS hSw => by obtain ⟨s0, s1, s2, s3⟩ := hSw; go_simp; first | done | assumption | omega | (simp; omega)⟩) (SC.out _ (Below.refl _ _).drew) ?_
              try simp only [List.setIfInBounds_toArray, List.set_cons_zero, List.set_cons_succ]
              refine takeL (i := 6) (d := 105) (v := .int .i64 (k : Int)) rfl rfl (by kernel_rfl) (by kernel_rfl) (by kernel_rfl) (by kernel_rfl) (by kernel_rfl) (fun _ _ _ h => h) (Or.inl ⟨by rfl, fun wS hSw => by obtain ⟨s0, s1, s2, s3⟩ := hSw; go_simp; first | done | assumption | omega | (simp; omega)⟩) (SC.out _ (Below.refl _ _).drew) ?_
              try simp only [List.setIfInBounds_toArray, List.set_cons_zero, List.set_cons_succ]
              refine takeL (i := 7) (d := 106) (v := .pointer (some ⟨bR, oR + k * 3, none⟩)) rfl rfl (by kernel_rfl) (by kernel_rfl) (by kernel_rfl) (by kernel_rfl) (by kernel_rfl) (fun _ _ _ h => h) (Or.inl ⟨by rfl, fun wS hSw => by obtain ⟨s0, s1, s2, s3⟩ := hSw; go_simp; first | done | assumption | omega | (simp; omega)⟩) (SC.out _ (Below.refl _ _).drew) ?_
              try simp only [List.setIfInBounds_toArray, List.set_cons_zero, List.set_cons_succ]
              refine takeL (i := 8) (d := 107) (v := .pointer (some ⟨bR, oR + k * 3, none⟩)) rfl rfl (by kernel_rfl) (by kernel_rfl) (by kernel_rfl) (by kernel_rfl) (by kernel_rfl) (fun _ _ _ h => h) (Or.inl ⟨by rfl, fun wS hSw => by obtain ⟨s0, s1, s2, s3⟩ := hSw; go_simp; first | done | assumption | omega | (simp; omega)⟩) (SC.out _ (Below.refl _ _).drew) ?_
              try simp only [List.setIfInBounds_toArray, List.set_cons_zero, List.set_cons_succ]
              refine takeL (i := 9) (d := 108) (v := .int .i64 y.seq) rfl rfl (by kernel_rfl) (by kernel_rfl) (by kernel_rfl) (by kernel_rfl) (by kernel_rfl) (fun _ _ _ h => h) (Or.inl ⟨by rfl, fun wS hSw => by obtain ⟨s0, s1, s2, s3⟩ := hSw; go_simp; first | done | assumption | omega | (simp; omega)⟩) (SC.out _ (Below.refl _ _).drew) ?_
              try simp only [List.setIfInBounds_toArray, List.set_cons_zero, List.set_cons_succ]
              refine takeL (i := 10) (d := 109) (v := .slice (some ⟨b, off, none⟩) m4.length c4) rfl rfl (by kernel_rfl) (by kernel_rfl) (by kernel_rfl) (by kernel_rfl) (by kernel_rfl) (fun _ _ _ h => h) (Or.inl ⟨by rfl, fun wS hSw => by obtain ⟨s0, s1, s2, s3⟩ := hSw; go_simp; first | done | assumption | omega | (simp; omega)⟩) (SC.out _ (Below.refl _ _).drew) ?_
              try simp only [List.setIfInBounds_toArray, List.set_cons_zero, List.set_cons_succ]
              refine takeL (i := 11) (d := 110) (v := .int .i64 (i : Int)) rfl rfl (by kernel_rfl) (by kernel_rfl) (by kernel_rfl) (by kernel_rfl) (by kernel_rfl) (fun _ _ _ h => h) (Or.inl ⟨by rfl, fun wS hSw => by obtain ⟨s0, s1, s2, s3⟩ := hSw; go_simp; first | done | assumption | omega | (simp; omega)⟩) (SC.out _ (Below.refl _ _).drew) ?_
              try simp only [List.setIfInBounds_toArray, List.set_cons_zero, List.set_cons_succ]
              refine takeL (i := 12) (d := 111) (v := .pointer (some ⟨b, off + i * 2, none⟩)) rfl rfl (by kernel_rfl) (by kernel_rfl) (by kernel_rfl) (by kernel_rfl) (by kernel_rfl) (fun _ _ _ h => h) (Or.inl ⟨by rfl, fun wS hSw => by obtain ⟨s0, s1, s2, s3⟩ := hSw; go_simp; first | done | assumption | omega | (simp; omega)⟩) (SC.out _ (Below.refl _ _).drew) ?_
              try simp only [List.setIfInBounds_toArray, List.set_cons_zero, List.set_cons_succ]
              refine takeL (i := 13) (d := 112) (v := .pointer (some ⟨b, off + i * 2 + 1, none⟩)) rfl rfl (by kernel_rfl) (by kernel_rfl) (by kernel_rfl) (by kernel_rfl) (by kernel_rfl) (fun _ _ _ h => h) (Or.inl ⟨by rfl, fun wS hSw => by obtain ⟨s0, s1, s2, s3⟩ := hSw; go_simp; first | done | assumption | omega | (simp; omega)⟩) (SC.out _ (Below.refl _ _).drew) ?_
              try simp only [List.setIfInBounds_toArray, List.set_cons_zero, List.set_cons_succ]
              refine takeL (i := 14) (d := 113) (v := .slice (some ⟨bR, oR, none⟩) xr.length xc2) rfl rfl (by kernel_rfl) (by kernel_rfl) (by kernel_rfl) (by kernel_rfl) (by kernel_rfl) (fun _ _ _ h => h) (Or.inl ⟨by rfl, fun wS hSw => by obtain ⟨s0, s1, s2, s3⟩ := hSw; go_simp; first | done | assumption | omega | (simp; omega)⟩) (SC.out _ (Below.refl _ _).drew) ?_
              try simp only [List.setIfInBounds_toArray, List.set_cons_zero, List.set_cons_succ]
              refine takeL (i := 15) (d := 114) (v := .int .i64 (k : Int)) rfl rfl (by kernel_rfl) (by kernel_rfl) (by kernel_rfl) (by kernel_rfl) (by kernel_rfl) (fun _ _ _ h => h) (Or.inl ⟨by rfl, fun wS hSw => by obtain ⟨s0, s1, s2, s3⟩ := hSw; go_simp; first | done | assumption | omega | (simp; omega)⟩) (SC.out _ (Below.refl _ _).drew) ?_
              try simp only [List.setIfInBounds_toArray, List.set_cons_zero, List.set_cons_succ]
              refine takeL (i := 16) (d := 115) (v := .pointer (some ⟨bR, oR + k * 3, none⟩)) rfl rfl (by kernel_rfl) (by kernel_rfl) (by kernel_rfl) (by kernel_rfl) (by kernel_rfl) (fun _ _ _ h => h) (Or.inl ⟨by rfl, fun wS hSw => by obtain ⟨s0, s1, s2, s3⟩ := hSw; go_simp; first | done | assumption | omega | (simp; omega)⟩) (SC.out _ (Below.refl _ _).drew) ?_
              try simp only [List.setIfInBounds_toArray, List.set_cons_zero, List.set_cons_succ]
              refine takeL (i := 17) (d := 116) (v := .pointer (some ⟨bR, oR + k * 3 + 1, none⟩)) rfl rfl (by kernel_rfl) (by kernel_rfl) (by kernel_rfl) (by kernel_rfl) (by kernel_rfl) (fun _ _ _ h => h) (Or.inl ⟨by rfl, fun wS hSw => by obtain ⟨s0, s1, s2, s3⟩ := hSw; go_simp; first | done | assumption | omega | (simp; omega)⟩) (SC.out _ (Below.refl _ _).drew) ?_
              try simp only [List.setIfInBounds_toArray, List.set_cons_zero, List.set_cons_succ]
              refine takeL (i := 18) (d := 117) (v := .int .i64 y.time) rfl rfl (by kernel_rfl) (by kernel_rfl) (by kernel_rfl) (by kernel_rfl) (by kernel_rfl) (fun _ _ _ h => h) (Or.inl ⟨by rfl, fun wS hSw => by obtain ⟨s0, s1, s2, s3⟩ := hSw; go_simp; first | done | assumption | omega | (simp; omega)⟩) (SC.out _ (Below.refl _ _).drew) ?_
              try simp only [List.setIfInBounds_toArray, List.set_cons_zero, List.set_cons_succ]
              refine takeL (i := 19) (d := 118) (v := .slice (some ⟨b, off, none⟩) m4.length c4) rfl rfl (by kernel_rfl) (by kernel_rfl) (by kernel_rfl) (by kernel_rfl) (by kernel_rfl) (fun _ _ _ h => h) (Or.inl ⟨by rfl, fun wS hSw => by obtain ⟨s0, s1, s2, s3⟩ := hSw; go_simp; first | done | assumption | omega | (simp; omega)⟩) (SC.out _ (Below.refl _ _).drew) ?_
              try simp only [List.setIfInBounds_toArray, List.set_cons_zero, List.set_cons_succ]
              refine takeL (i := 20) (d := 119) (v := .int .i64 (i : Int)) rfl rfl (by kernel_rfl) (by kernel_rfl) (by kernel_rfl) (by kernel_rfl) (by kernel_rfl) (fun _ _ _ h => h) (Or.inl ⟨by rfl, fun wS hSw => by obtain ⟨s0, s1, s2, s3⟩ := hSw; go_simp; first | done | assumption | omega | (simp; omega)⟩) (SC.out _ (Below.refl _ _).drew) ?_
              try simp only [List.setIfInBounds_toArray, List.set_cons_zero, List.set_cons_succ]
              refine takeL (i := 21) (d := 120) (v := .pointer (some ⟨b, off + i * 2, none⟩)) rfl rfl (by kernel_rfl) (by kernel_rfl) (by kernel_rfl) (by kernel_rfl) (by kernel_rfl) (fun _ _ _ h => h) (Or.inl ⟨by rfl, fun wS hSw => by obtain ⟨s0, s1, s2, s3⟩ := hSw; go_simp; first | done | assumption | omega | (simp; omega)⟩) (SC.out _ (Below.refl _ _).drew) ?_
              try simp only [List.setIfInBounds_toArray, List.set_cons_zero, List.set_cons_succ]
              refine takeL (i := 22) (d := 121) (v := .pointer (some ⟨b, off + i * 2 + 1, none⟩)) rfl rfl (by kernel_rfl) (by kernel_rfl) (by kernel_rfl) (by kernel_rfl) (by kernel_rfl) (fun _ _ _ h => h) (Or.inl ⟨by rfl, fun wS hSw => by obtain ⟨s0, s1, s2, s3⟩ := hSw; go_simp; first | done | assumption | omega | (simp; omega)⟩) (SC.out _ (Below.refl _ _).drew) ?_
              try simp only [List.setIfInBounds_toArray, List.set_cons_zero, List.set_cons_succ]
              refine takeL (i := 23) (d := 122) (v := .slice (some ⟨bR, oR, none⟩) xr.length xc2) rfl rfl (by kernel_rfl) (by kernel_rfl) (by kernel_rfl) (by kernel_rfl) (by kernel_rfl) (fun _ _ _ h => h) (Or.inl ⟨by rfl, fun wS hSw => by obtain ⟨s0, s1, s2, s3⟩ := hSw; go_simp; first | done | assumption | omega | (simp; omega)⟩) (SC.out _ (Below.refl _ _).drew) ?_
              try simp only [List.setIfInBounds_toArray, List.set_cons_zero, List.set_cons_succ]
              refine takeL (i := 24) (d := 123) (v := .int .i64 (k : Int)) rfl rfl (by kernel_rfl) (by kernel_rfl) (by kernel_rfl) (by kernel_rfl) (by kernel_rfl) (fun _ _ _ h => h) (Or.inl ⟨by rfl, fun wS hSw => by obtain ⟨s0, s1, s2, s3⟩ := hSw; go_simp; first | done | assumption | omega | (simp; omega)⟩) (SC.out _ (Below.refl _ _).drew) ?_
              try simp only [List.setIfInBounds_toArray, List.set_cons_zero, List.set_cons_succ]
              refine takeL (i := 25) (d := 124) (v := .pointer (some ⟨bR, oR + k * 3, none⟩)) rfl rfl (by kernel_rfl) (by kernel_rfl) (by kernel_rfl) (by kernel_rfl) (by kernel_rfl) (fun _ _ _ h => h) (Or.inl ⟨by rfl, fun wS hSw => by obtain ⟨s0, s1, s2, s3⟩ := hSw; go_simp; first | done | assumption | omega | (simp; omega)⟩) (SC.out _ (Below.refl _ _).drew) ?_
              try simp only [List.setIfInBounds_toArray, List.set_cons_zero, List.set_cons_succ]
              refine takeL (i := 26) (d := 125) (v := .pointer (some ⟨bR, oR + k * 3 + 2, none⟩)) rfl rfl (by kernel_rfl) (by kernel_rfl) (by kernel_rfl) (by kernel_rfl) (by kernel_rfl) (fun _ _ _ h => h) (Or.inl ⟨by rfl, fun wS hSw => by obtain ⟨s0, s1, s2, s3⟩ := hSw; go_simp; first | done | assumption | omega | (simp; omega)⟩) (SC.out _ (Below.refl _ _).drew) ?_
              try simp only [List.setIfInBounds_toArray, List.set_cons_zero, List.set_cons_succ]
              refine takeL (i := 27) (d := 126) (v := .string ⟨y.line.toArray⟩) rfl rfl (by kernel_rfl) (by kernel_rfl) (by kernel_rfl) (by kernel_rfl) (by kernel_rfl) (fun _ _ _ h => h) (Or.inl ⟨by rfl, fun wS hSw => by obtain ⟨s0, s1, s2, s3⟩ := hSw; go_simp; first | done | assumption | omega | (simp; omega)⟩) (SC.out _ (Below.refl _ _).drew) ?_
              try simp only [List.setIfInBounds_toArray, List.set_cons_zero, List.set_cons_succ]
              refine takeL (i := 28) (d := 127) (v := .agg #[.int .i64 y.seq, .int .i64 y.time, .string ⟨y.line.toArray⟩]) rfl rfl (by kernel_rfl) (by kernel_rfl) (by kernel_rfl) (by kernel_rfl) (by kernel_rfl) (fun _ _ _ h => h) (Or.inl ⟨by rfl, fun wS hSw => by obtain ⟨s0, s1, s2, s3⟩ := hSw; go_simp; first | done | assumption | omega | (simp; omega)⟩) (SC.out _ (Below.refl _ _).drew) ?_
              try simp only [List.setIfInBounds_toArray, List.set_cons_zero, List.set_cons_succ]
              refine readyL (rs := [29]) (by kernel_rfl) (by simp) ?_
              refine AllReadyL.cons rfl (fun K hK => ?_) AllReadyL.nil
              rw [if_pos (by rfl)]
              go_simp
              have D1 : Below wr.heap.size wr (wr.drew.alloc (.cells #[.int .i64 y.seq, .int .i64 y.time, .string ⟨y.line.toArray⟩] 46)) := (Below.refl _ _).drew.alloc (Below.refl wr.heap.size wr).drew.size _
              refine hK.out _ _ (SC.out _ D1) ?_
              clear hK K
              try simp only [Act.put, List.setIfInBounds_toArray, List.set_cons_zero, List.set_cons_succ]
              refine readyL (rs := [30]) (by kernel_rfl) (by simp) ?_
              refine AllReadyL.cons rfl (fun K hK => ?_) AllReadyL.nil
              refine Kd.step_app1A (K := KRr) rfl (.tmp 99) (.tmp 128) 33 rfl Tryd.underlying33 infoRr rfl w5.heap.size u8 acc2 y (by simp [Act.eval]) (HA2.out.below D1) wr.heap.size (heap_alloc_new wr.drew _) (by simp [Act.eval]; try rfl) (by have := LAC.out; unfold maxLen; omega) (by have := LAC.out; omega) (HW2.out.trans (D1.mono HW2.out.size)).size ?_
              intro g8 cap8 w8 p8 gg8 at8
              have b8 : Below w5.heap.size w5 w8 := (HW2.out.trans (D1.mono HW2.out.size)).grown gg8 (HW2.out.trans (D1.mono HW2.out.size)).size (fun j hj => ((HA2.out.below D1).lt j hj).1)
              have HP8 := hid p8
              refine hK.out _ _ (SD.out _ b8) ?_
              clear hK K
              try simp only [Act.put, List.setIfInBounds_toArray, List.set_cons_zero, List.set_cons_succ]
              refine readyL (rs := [31]) (by kernel_rfl) (by simp) ?_
              refine AllReadyL.last rfl (fun K hK => ?_)
              rw [if_pos (by rfl)]
              go_simp
              refine hK.out _ _ ?_
              clear hK K
              refine doneL (by kernel_rfl) ?_
              go_wp2_with fail
              go_roundw
              case rel => exact ⟨k + 1, acc2 ++ [y], by go_num, HKL.out, by simpa using HP8, hid (by rw [HXT2.out, HE2.out, List.append_assoc]), hid b8⟩
              case measure => have := HKL.out; simp [intOf]; omega
            · have hke : k = xr.length := by omega
              have hnk : ¬ (k : Int) < (xr.length : Int) := by omega
              have HNX : Hid (acc2 = (m4.take (i + 1)).flatMap (·.rows)) := hid (by
                rw [HE2.out, HXT.out, List.flatMap_append, ← HAE.out, hke, List.take_length]
                simp)
              clear hke hkl hk
              go_wp2_with fail
              go_roundw
              case rel => exact ⟨i + 1, acc2, by go_num, HIL.out, HA2, HNX, HW2⟩
              case measure => have := HIL.out; simp [intOf]; omega
        · have g2p : (m4.length : Int) - 1 ≤ (i : Int) := by omega
          have g2 : decide ((i : Int) < (m4.length : Int) - 1) = false := decide_eq_false (by omega)
          clear p4
          go_wp2_with fail
          refine wp_region_held_drew (S := fun wx => Below wr.heap.size wr wx ∧ (wx.cell? ⟨b, off + i * 2, none⟩ = some (.slice xA xl.length xc) ∧ wx.cell? ⟨b, off + i * 2 + 1, none⟩ = some (.slice xA2 xr.length xc2)) ∧ wx.cell? ⟨w.heap.size, 0, none⟩ = some (.slice A xl.length C)) (by kernel_rfl) hk9 (fun hHeld => ?_)
          refine takeAt (i := 0) (d := 45) (v := .slice (some ⟨b, off, none⟩) m4.length c4) rfl rfl (by kernel_rfl) (by kernel_rfl) (by kernel_rfl) (fun _ _ _ h => h) (Or.inl ⟨by rfl, fun wS hSw => by obtain ⟨-, ⟨s0, s1⟩, s2⟩ := hSw; go_simp; first | done | assumption | omega | (simp; omega)⟩) hHeld ?_
          try simp only [List.setIfInBounds_toArray, List.set_cons_zero, List.set_cons_succ]
          refine takeAt (i := 1) (d := 46) (v := .int .i64 (i : Int)) rfl rfl (by kernel_rfl) (by kernel_rfl) (by kernel_rfl) (fun _ _ _ h => h) (Or.inl ⟨by rfl, fun wS hSw => by obtain ⟨-, ⟨s0, s1⟩, s2⟩ := hSw; go_simp; first | done | assumption | omega | (simp; omega)⟩) hHeld ?_
          try simp only [List.setIfInBounds_toArray, List.set_cons_zero, List.set_cons_succ]
          refine takeAt (i := 2) (d := 47) (v := .pointer (some ⟨b, off + i * 2, none⟩)) rfl rfl (by kernel_rfl) (by kernel_rfl) (by kernel_rfl) (fun _ _ _ h => h) (Or.inl ⟨by rfl, fun wS hSw => by obtain ⟨-, ⟨s0, s1⟩, s2⟩ := hSw; go_simp; first | done | assumption | omega | (simp; omega)⟩) hHeld ?_
          try simp only [List.setIfInBounds_toArray, List.set_cons_zero, List.set_cons_succ]
          refine takeAt (i := 3) (d := 48) (v := .agg #[.slice xA xl.length xc, .slice xA2 xr.length xc2]) rfl rfl (by kernel_rfl) (by kernel_rfl) (by kernel_rfl) (fun _ _ _ h => h) (Or.inl ⟨by rfl, fun wS hSw => by obtain ⟨-, ⟨s0, s1⟩, s2⟩ := hSw; go_simp; first | done | assumption | omega | (simp; omega)⟩) hHeld ?_
          try simp only [List.setIfInBounds_toArray, List.set_cons_zero, List.set_cons_succ]
          refine wpAnyH_ready (rs := [4]) (by kernel_rfl) (by simp) ?_
          refine AllReadyH.cons rfl (fun K hK => ?_) AllReadyH.nil
          try rw [if_pos (by rfl)]
          go_simp
          go_at_call 14
          refine (KR _ hHeld.1).mono ?_
          rintro e w6 ⟨rfl, b6⟩
          refine hK.out _ _ (MK.out _ (hHeld.1.trans (b6.mono hHeld.1.size))) (fun hHeld => ?_)
          clear hK K
          try simp only [Act.put, List.setIfInBounds_toArray, List.set_cons_zero, List.set_cons_succ]
          refine takeAt (i := 5) (d := 50) (v := .bool false) rfl rfl (by kernel_rfl) (by kernel_rfl) (by kernel_rfl) (fun _ _ _ h => h) (Or.inl ⟨by rfl, fun wS hSw => by obtain ⟨-, ⟨s0, s1⟩, s2⟩ := hSw; go_simp; first | done | assumption | omega | (simp; omega)⟩) hHeld ?_
          try simp only [List.setIfInBounds_toArray, List.set_cons_zero, List.set_cons_succ]
          refine takeAt (i := 6) (d := 51) (v := .bool false) rfl rfl (by kernel_rfl) (by kernel_rfl) (by kernel_rfl) (fun _ _ _ h => h) (Or.inl ⟨by rfl, fun wS hSw => by obtain ⟨-, ⟨s0, s1⟩, s2⟩ := hSw; go_simp; first | done | assumption | omega | (simp; omega)⟩) hHeld ?_
          try simp only [List.setIfInBounds_toArray, List.set_cons_zero, List.set_cons_succ]
          refine takeAt (i := 7) (d := 52) (v := .slice (some ⟨b, off, none⟩) m4.length c4) rfl rfl (by kernel_rfl) (by kernel_rfl) (by kernel_rfl) (fun _ _ _ h => h) (Or.inl ⟨by rfl, fun wS hSw => by obtain ⟨-, ⟨s0, s1⟩, s2⟩ := hSw; go_simp; first | done | assumption | omega | (simp; omega)⟩) hHeld ?_
          try simp only [List.setIfInBounds_toArray, List.set_cons_zero, List.set_cons_succ]
          refine takeAt (i := 8) (d := 53) (v := .int .i64 (i : Int)) rfl rfl (by kernel_rfl) (by kernel_rfl) (by kernel_rfl) (fun _ _ _ h => h) (Or.inl ⟨by rfl, fun wS hSw => by obtain ⟨-, ⟨s0, s1⟩, s2⟩ := hSw; go_simp; first | done | assumption | omega | (simp; omega)⟩) hHeld ?_
          try simp only [List.setIfInBounds_toArray, List.set_cons_zero, List.set_cons_succ]
          refine takeAt (i := 9) (d := 54) (v := .pointer (some ⟨b, off + i * 2, none⟩)) rfl rfl (by kernel_rfl) (by kernel_rfl) (by kernel_rfl) (fun _ _ _ h => h) (Or.inl ⟨by rfl, fun wS hSw => by obtain ⟨-, ⟨s0, s1⟩, s2⟩ := hSw; go_simp; first | done | assumption | omega | (simp; omega)⟩) hHeld ?_
          try simp only [List.setIfInBounds_toArray, List.set_cons_zero, List.set_cons_succ]
          refine takeAt (i := 10) (d := 55) (v := .pointer (some ⟨b, off + i * 2 + 1, none⟩)) rfl rfl (by kernel_rfl) (by kernel_rfl) (by kernel_rfl) (fun _ _ _ h => h) (Or.inl ⟨by rfl, fun wS hSw => by obtain ⟨-, ⟨s0, s1⟩, s2⟩ := hSw; go_simp; first | done | assumption | omega | (simp; omega)⟩) hHeld ?_
          try simp only [List.setIfInBounds_toArray, List.set_cons_zero, List.set_cons_succ]
          refine takeAt (i := 11) (d := 56) (v := .slice xA2 xr.length xc2) rfl rfl (by kernel_rfl) (by kernel_rfl) (by kernel_rfl) (fun _ _ _ h => h) (Or.inl ⟨by rfl, fun wS hSw => by obtain ⟨-, ⟨s0, s1⟩, s2⟩ := hSw; go_simp; first | done | assumption | omega | (simp; omega)⟩) hHeld ?_
          try simp only [List.setIfInBounds_toArray, List.set_cons_zero, List.set_cons_succ]
          refine takeAt (i := 12) (d := 57) (v := .int .i64 (xr.length : Int)) rfl rfl (by kernel_rfl) (by kernel_rfl) (by kernel_rfl) (fun _ _ _ h => h) (Or.inl ⟨by rfl, fun wS hSw => by obtain ⟨-, ⟨s0, s1⟩, s2⟩ := hSw; go_simp; first | done | assumption | omega | (simp; omega)⟩) hHeld ?_
          try simp only [List.setIfInBounds_toArray, List.set_cons_zero, List.set_cons_succ]
          refine takeAt (i := 13) (d := 58) (v := .int .i64 (n : Int)) rfl rfl (by kernel_rfl) (by kernel_rfl) (by kernel_rfl) (fun _ _ _ h => h) (Or.inl ⟨by rfl, fun wS hSw => by obtain ⟨-, ⟨s0, s1⟩, s2⟩ := hSw; go_simp; first | done | assumption | omega | (simp; omega)⟩) hHeld ?_
          try simp only [List.setIfInBounds_toArray, List.set_cons_zero, List.set_cons_succ]
          refine takeAt (i := 14) (d := 59) (v := .bool false) rfl rfl (by kernel_rfl) (by kernel_rfl) (by kernel_rfl) (fun _ _ _ h => h) (Or.inl ⟨by rfl, fun wS hSw => by obtain ⟨-, ⟨s0, s1⟩, s2⟩ := hSw; go_simp; first | done | assumption | omega | (simp; omega)⟩) hHeld ?_
          try simp only [List.setIfInBounds_toArray, List.set_cons_zero, List.set_cons_succ]
          refine takeAt (i := 15) (d := 60) (v := .bool false) rfl rfl (by kernel_rfl) (by kernel_rfl) (by kernel_rfl) (fun _ _ _ h => h) (Or.inl ⟨by rfl, fun wS hSw => by obtain ⟨-, ⟨s0, s1⟩, s2⟩ := hSw; go_simp; first | done | assumption | omega | (simp; omega)⟩) hHeld ?_
          try simp only [List.setIfInBounds_toArray, List.set_cons_zero, List.set_cons_succ]
          refine takeAt (i := 16) (d := 61) (v := .bool false) rfl rfl (by kernel_rfl) (by kernel_rfl) (by kernel_rfl) (fun _ _ _ h => h) (Or.inl ⟨by rfl, fun wS hSw => by obtain ⟨-, ⟨s0, s1⟩, s2⟩ := hSw; go_simp; first | done | assumption | omega | (simp; omega)⟩) hHeld ?_
          try simp only [List.setIfInBounds_toArray, List.set_cons_zero, List.set_cons_succ]
          refine takeAt (i := 17) (d := 62) (v := .int .i64 (i : Int)) rfl rfl (by kernel_rfl) (by kernel_rfl) (by kernel_rfl) (fun _ _ _ h => h) (Or.inl ⟨by rfl, fun wS hSw => by obtain ⟨-, ⟨s0, s1⟩, s2⟩ := hSw; go_simp; first | done | assumption | omega | (simp; omega)⟩) hHeld ?_
          try simp only [List.setIfInBounds_toArray, List.set_cons_zero, List.set_cons_succ]
          refine takeAt (i := 18) (d := 63) (v := .slice (some ⟨b, off, none⟩) m4.length c4) rfl rfl (by kernel_rfl) (by kernel_rfl) (by kernel_rfl) (fun _ _ _ h => h) (Or.inl ⟨by rfl, fun wS hSw => by obtain ⟨-, ⟨s0, s1⟩, s2⟩ := hSw; go_simp; first | done | assumption | omega | (simp; omega)⟩) hHeld ?_
          try simp only [List.setIfInBounds_toArray, List.set_cons_zero, List.set_cons_succ]
          refine takeAt (i := 19) (d := 64) (v := .int .i64 (m4.length : Int)) rfl rfl (by kernel_rfl) (by kernel_rfl) (by kernel_rfl) (fun _ _ _ h => h) (Or.inl ⟨by rfl, fun wS hSw => by obtain ⟨-, ⟨s0, s1⟩, s2⟩ := hSw; go_simp; first | done | assumption | omega | (simp; omega)⟩) hHeld ?_
          try simp only [List.setIfInBounds_toArray, List.set_cons_zero, List.set_cons_succ]
          refine takeAt (i := 20) (d := 65) (v := .int .i64 ((m4.length : Int) - 1)) rfl rfl (by kernel_rfl) (by kernel_rfl) (by kernel_rfl) (fun _ _ _ h => h) (Or.inl ⟨by rfl, fun wS hSw => by obtain ⟨-, ⟨s0, s1⟩, s2⟩ := hSw; go_simp; first | done | assumption | omega | (simp; omega)⟩) hHeld ?_
          try simp only [List.setIfInBounds_toArray, List.set_cons_zero, List.set_cons_succ]
          refine takeAt (i := 21) (d := 66) (v := .bool false) rfl rfl (by kernel_rfl) (by kernel_rfl) (by kernel_rfl) (fun _ _ _ h => h) (Or.inl ⟨by rfl, fun wS hSw => by obtain ⟨-, ⟨s0, s1⟩, s2⟩ := hSw; go_simp; first | done | assumption | omega | (simp; omega)⟩) hHeld ?_
          try simp only [List.setIfInBounds_toArray, List.set_cons_zero, List.set_cons_succ]
          refine takeAt (i := 22) (d := 67) (v := .bool false) rfl rfl (by kernel_rfl) (by kernel_rfl) (by kernel_rfl) (fun _ _ _ h => h) (Or.inl ⟨by rfl, fun wS hSw => by obtain ⟨-, ⟨s0, s1⟩, s2⟩ := hSw; go_simp; first | done | assumption | omega | (simp; omega)⟩) hHeld ?_
          try simp only [List.setIfInBounds_toArray, List.set_cons_zero, List.set_cons_succ]
          refine takeAt (i := 23) (d := 68) (v := undef) rfl rfl (by kernel_rfl) (by kernel_rfl) (by kernel_rfl) (fun _ _ _ h => h) (Or.inr ⟨by rfl, rfl⟩) hHeld ?_
          try simp only [List.setIfInBounds_toArray, List.set_cons_zero, List.set_cons_succ]
          refine takeAt (i := 24) (d := 69) (v := undef) rfl rfl (by kernel_rfl) (by kernel_rfl) (by kernel_rfl) (fun _ _ _ h => h) (Or.inr ⟨by rfl, rfl⟩) hHeld ?_
          try simp only [List.setIfInBounds_toArray, List.set_cons_zero, List.set_cons_succ]
          refine takeAt (i := 25) (d := 70) (v := undef) rfl rfl (by kernel_rfl) (by kernel_rfl) (by kernel_rfl) (fun _ _ _ h => h) (Or.inr ⟨by rfl, rfl⟩) hHeld ?_
          try simp only [List.setIfInBounds_toArray, List.set_cons_zero, List.set_cons_succ]
          refine takeAt (i := 26) (d := 71) (v := undef) rfl rfl (by kernel_rfl) (by kernel_rfl) (by kernel_rfl) (fun _ _ _ h => h) (Or.inr ⟨by rfl, rfl⟩) hHeld ?_
          try simp only [List.setIfInBounds_toArray, List.set_cons_zero, List.set_cons_succ]
          refine takeAt (i := 27) (d := 72) (v := undef) rfl rfl (by kernel_rfl) (by kernel_rfl) (by kernel_rfl) (fun _ _ _ h => h) (Or.inr ⟨by rfl, rfl⟩) hHeld ?_
          try simp only [List.setIfInBounds_toArray, List.set_cons_zero, List.set_cons_succ]
          refine takeAt (i := 28) (d := 73) (v := undef) rfl rfl (by kernel_rfl) (by kernel_rfl) (by kernel_rfl) (fun _ _ _ h => h) (Or.inr ⟨by rfl, rfl⟩) hHeld ?_
          try simp only [List.setIfInBounds_toArray, List.set_cons_zero, List.set_cons_succ]
          refine takeAt (i := 29) (d := 74) (v := undef) rfl rfl (by kernel_rfl) (by kernel_rfl) (by kernel_rfl) (fun _ _ _ h => h) (Or.inr ⟨by rfl, rfl⟩) hHeld ?_
          try simp only [List.setIfInBounds_toArray, List.set_cons_zero, List.set_cons_succ]
          refine takeAt (i := 30) (d := 75) (v := undef) rfl rfl (by kernel_rfl) (by kernel_rfl) (by kernel_rfl) (fun _ _ _ h => h) (Or.inr ⟨by rfl, rfl⟩) hHeld ?_
          try simp only [List.setIfInBounds_toArray, List.set_cons_zero, List.set_cons_succ]
          refine takeAt (i := 31) (d := 76) (v := .bool false) rfl rfl (by kernel_rfl) (by kernel_rfl) (by kernel_rfl) (fun _ _ _ h => h) (Or.inl ⟨by rfl, fun wS hSw => by obtain ⟨-, ⟨s0, s1⟩, s2⟩ := hSw; go_simp; first | done | assumption | omega | (simp; omega)⟩) hHeld ?_
          try simp only [List.setIfInBounds_toArray, List.set_cons_zero, List.set_cons_succ]
          refine takeAt (i := 32) (d := 77) (v := .bool false) rfl rfl (by kernel_rfl) (by kernel_rfl) (by kernel_rfl) (fun _ _ _ h => h) (Or.inl ⟨by rfl, fun wS hSw => by obtain ⟨-, ⟨s0, s1⟩, s2⟩ := hSw; go_simp; first | done | assumption | omega | (simp; omega)⟩) hHeld ?_
          try simp only [List.setIfInBounds_toArray, List.set_cons_zero, List.set_cons_succ]
          refine takeAt (i := 33) (d := 78) (v := .bool false) rfl rfl (by kernel_rfl) (by kernel_rfl) (by kernel_rfl) (fun _ _ _ h => h) (Or.inl ⟨by rfl, fun wS hSw => by obtain ⟨-, ⟨s0, s1⟩, s2⟩ := hSw; go_simp; first | done | assumption | omega | (simp; omega)⟩) hHeld ?_
          try simp only [List.setIfInBounds_toArray, List.set_cons_zero, List.set_cons_succ]
          refine takeAt (i := 34) (d := 79) (v := .slice (some ⟨b, off, none⟩) m4.length c4) rfl rfl (by kernel_rfl) (by kernel_rfl) (by kernel_rfl) (fun _ _ _ h => h) (Or.inl ⟨by rfl, fun wS hSw => by obtain ⟨-, ⟨s0, s1⟩, s2⟩ := hSw; go_simp; first | done | assumption | omega | (simp; omega)⟩) hHeld ?_
          try simp only [List.setIfInBounds_toArray, List.set_cons_zero, List.set_cons_succ]
          refine takeAt (i := 35) (d := 80) (v := .int .i64 (i : Int)) rfl rfl (by kernel_rfl) (by kernel_rfl) (by kernel_rfl) (fun _ _ _ h => h) (Or.inl ⟨by rfl, fun wS hSw => by obtain ⟨-, ⟨s0, s1⟩, s2⟩ := hSw; go_simp; first | done | assumption | omega | (simp; omega)⟩) hHeld ?_
          try simp only [List.setIfInBounds_toArray, List.set_cons_zero, List.set_cons_succ]
          refine takeAt (i := 36) (d := 81) (v := .pointer (some ⟨b, off + i * 2, none⟩)) rfl rfl (by kernel_rfl) (by kernel_rfl) (by kernel_rfl) (fun _ _ _ h => h) (Or.inl ⟨by rfl, fun wS hSw => by obtain ⟨-, ⟨s0, s1⟩, s2⟩ := hSw; go_simp; first | done | assumption | omega | (simp; omega)⟩) hHeld ?_
          try simp only [List.setIfInBounds_toArray, List.set_cons_zero, List.set_cons_succ]
          refine takeAt (i := 37) (d := 82) (v := .pointer (some ⟨b, off + i * 2, none⟩)) rfl rfl (by kernel_rfl) (by kernel_rfl) (by kernel_rfl) (fun _ _ _ h => h) (Or.inl ⟨by rfl, fun wS hSw => by obtain ⟨-, ⟨s0, s1⟩, s2⟩ := hSw; go_simp; first | done | assumption | omega | (simp; omega)⟩) hHeld ?_
          try simp only [List.setIfInBounds_toArray, List.set_cons_zero, List.set_cons_succ]
          refine takeAt (i := 38) (d := 83) (v := .slice xA xl.length xc) rfl rfl (by kernel_rfl) (by kernel_rfl) (by kernel_rfl) (fun _ _ _ h => h) (Or.inl ⟨by rfl, fun wS hSw => by obtain ⟨-, ⟨s0, s1⟩, s2⟩ := hSw; go_simp; first | done | assumption | omega | (simp; omega)⟩) hHeld ?_
          try simp only [List.setIfInBounds_toArray, List.set_cons_zero, List.set_cons_succ]
          refine takeAt (i := 39) (d := 84) (v := .pointer (some ⟨w.heap.size, 0, none⟩)) rfl rfl (by kernel_rfl) (by kernel_rfl) (by kernel_rfl) (fun _ _ _ h => h) (Or.inl ⟨by rfl, fun wS hSw => by obtain ⟨-, ⟨s0, s1⟩, s2⟩ := hSw; go_simp; first | done | assumption | omega | (simp; omega)⟩) hHeld ?_
          try simp only [List.setIfInBounds_toArray, List.set_cons_zero, List.set_cons_succ]
          refine takeAt (i := 40) (d := 85) (v := .slice A xl.length C) rfl rfl (by kernel_rfl) (by kernel_rfl) (by kernel_rfl) (fun _ _ _ h => h) (Or.inl ⟨by rfl, fun wS hSw => by obtain ⟨-, ⟨s0, s1⟩, s2⟩ := hSw; go_simp; first | done | assumption | omega | (simp; omega)⟩) hHeld ?_
          try simp only [List.setIfInBounds_toArray, List.set_cons_zero, List.set_cons_succ]
          refine wpAnyH_ready (rs := [41]) (by kernel_rfl) (by simp) ?_
          refine AllReadyH.cons rfl (fun K hK => ?_) AllReadyH.nil
          try rw [if_pos (by rfl)]
          go_simp
          go_at_call 15
          refine (KS _ hHeld.1).mono ?_
          rintro e w7 ⟨rfl, b7⟩
          refine hK.out _ _ (MK.out _ (hHeld.1.trans (b7.mono hHeld.1.size))) (fun hHeld => ?_)
          clear hK K
          try simp only [Act.put, List.setIfInBounds_toArray, List.set_cons_zero, List.set_cons_succ]
          refine takeAt (i := 42) (d := 87) (v := .bool false) rfl rfl (by kernel_rfl) (by kernel_rfl) (by kernel_rfl) (fun _ _ _ h => h) (Or.inl ⟨by rfl, fun wS hSw => by obtain ⟨-, ⟨s0, s1⟩, s2⟩ := hSw; go_simp; first | done | assumption | omega | (simp; omega)⟩) hHeld ?_
          try simp only [List.setIfInBounds_toArray, List.set_cons_zero, List.set_cons_succ]
          refine takeAt (i := 43) (d := 88) (v := .bool false) rfl rfl (by kernel_rfl) (by kernel_rfl) (by kernel_rfl) (fun _ _ _ h => h) (Or.inl ⟨by rfl, fun wS hSw => by obtain ⟨-, ⟨s0, s1⟩, s2⟩ := hSw; go_simp; first | done | assumption | omega | (simp; omega)⟩) hHeld ?_
          try simp only [List.setIfInBounds_toArray, List.set_cons_zero, List.set_cons_succ]
          refine wpAnyH_done (by kernel_rfl) ?_ _
          have HA7 := hid (HAC.out.below hHeld.1)
          have HW7 := hid (HW.out.trans (hHeld.1.mono HW.out.size))
          clear hHeld hk9
          go_wp2_with fail
          go_loopw [8, 10] (fun rv kv wi => ∃ (k : Nat) (acc2 : List CRow), kv = .int .i64 k ∧ k ≤ xr.length ∧ Hid (KRr.Own wi w5.heap.size rv acc2) ∧ Hid (acc2 = acc ++ xr.take k) ∧ Hid (Below w5.heap.size w5 wi)) (fun _ kv _ => xr.length - (intOf kv).toNat)
          case atStart => exact ⟨0, acc, rfl, by omega, HA7, hid (by simp), HW7⟩
          case round =>
            obtain ⟨k, acc2, rfl, hk, HA2, HE2, HW2⟩ := hrel
            have hxr := hrl.out
            have c1 := KX.out wr HW2.out
            by_cases hkl : k < xr.length
            · obtain ⟨bR, oR, hxA2, hbR, hcR⟩ := HRD.out.at hkl
              subst hxA2
              have HXT2 : Hid (xr.take (k + 1) = xr.take k ++ [xr[k]]) := hid (List.take_succ_eq_append_getElem hkl)
              have SD : Hid (∀ wx, Below w5.heap.size w5 wx → (wx.cell? ⟨b, off + i * 2 + 1, none⟩ = some (.slice (some ⟨bR, oR, none⟩) xr.length xc2)) ∧ wx.cell? ⟨bR, oR + k * 3, none⟩ = some (.int .i64 xr[k].seq) ∧ wx.cell? ⟨bR, oR + k * 3 + 1, none⟩ = some (.int .i64 xr[k].time) ∧ wx.cell? ⟨bR, oR + k * 3 + 2, none⟩ = some (.string ⟨xr[k].line.toArray⟩)) := hid (fun wx h => ⟨KX.out wx h, (h.cell (p := ⟨bR, oR + k * 3, none⟩) hbR).trans (hcR 0 _ (by decide) rfl), (h.cell (p := ⟨bR, oR + k * 3 + 1, none⟩) hbR).trans (hcR 1 _ (by decide) rfl), (h.cell (p := ⟨bR, oR + k * 3 + 2, none⟩) hbR).trans (hcR 2 _ (by decide) rfl)⟩)
              have SC : Hid (∀ wx, Below wr.heap.size wr wx → (wx.cell? ⟨b, off + i * 2 + 1, none⟩ = some (.slice (some ⟨bR, oR, none⟩) xr.length xc2)) ∧ wx.cell? ⟨bR, oR + k * 3, none⟩ = some (.int .i64 xr[k].seq) ∧ wx.cell? ⟨bR, oR + k * 3 + 1, none⟩ = some (.int .i64 xr[k].time) ∧ wx.cell? ⟨bR, oR + k * 3 + 2, none⟩ = some (.string ⟨xr[k].line.toArray⟩)) := hid (fun wx h => SD.out wx (HW2.out.trans (h.mono HW2.out.size)))
              have LAC : Hid (acc2.length + 1 ≤ 1048576) := hid (by
                have h1 := HBL.out
                rw [HE2.out, List.length_append, List.length_take]
                omega)
              have HKL := hid hkl
              have hkI : (k : Int) < (xr.length : Int) := by omega
              generalize xr[k] = y at *
              clear hcR hbR hkl
              go_wp2_with fail
              refine wp_region_L 31 (fun wx => (wx.cell? ⟨b, off + i * 2 + 1, none⟩ = some (.slice (some ⟨bR, oR, none⟩) xr.length xc2)) ∧ wx.cell? ⟨bR, oR + k * 3, none⟩ = some (.int .i64 y.seq) ∧ wx.cell? ⟨bR, oR + k * 3 + 1, none⟩ = some (.int .i64 y.time) ∧ wx.cell? ⟨bR, oR + k * 3 + 2, none⟩ = some (.string ⟨y.line.toArray⟩)) (by kernel_rfl) ?_
              refine takeL (i := 0) (d := 99) (v := u8) rfl rfl (by kernel_rfl) (by kernel_rfl) (by kernel_rfl) (by kernel_rfl) (by kernel_rfl) (fun _ _ _ h => h) (Or.inl ⟨by rfl, fun wS hSw => by obtain ⟨s0, s1, s2, s3⟩ := hSw; go_simp; first | done | assumption | omega | (simp; omega)⟩) (SC.out _ (Below.refl _ _).drew) ?_
              try simp only [List.setIfInBounds_toArray, List.set_cons_zero, List.set_cons_succ]
              refine takeL (i := 1) (d := 100) (v := .slice (some ⟨b, off, none⟩) m4.length c4) rfl rfl (by kernel_rfl) (by kernel_rfl) (by kernel_rfl) (by kernel_rfl) (by kernel_rfl) (fun _ _ _ h => h) (Or.inl ⟨by rfl, fun wS hSw => by obtain ⟨s0, s1, s2, s3⟩ := hSw; go_simp; first | done | assumption | omega | (simp; omega)⟩) (SC.out _ (Below.refl _ _).drew) ?_
              try simp only [List.setIfInBounds_toArray, List.set_cons_zero, List.set_cons_succ]
              refine takeL (i := 2) (d := 101) (v := .int .i64 (i : Int)) rfl rfl (by kernel_rfl) (by kernel_rfl) (by kernel_rfl) (by kernel_rfl) (by kernel_rfl) (fun _ _ _ h => h) (Or.inl ⟨by rfl, fun wS hSw => by obtain ⟨s0, s1, s2, s3⟩ := hSw; go_simp; first | done | assumption | omega | (simp; omega)⟩) (SC.out _ (Below.refl _ _).drew) ?_
              try simp only [List.setIfInBounds_toArray, List.set_cons_zero, List.set_cons_succ]
              refine takeL (i := 3) (d := 102) (v := .pointer (some ⟨b, off + i * 2, none⟩)) rfl rfl (by kernel_rfl) (by kernel_rfl) (by kernel_rfl) (by kernel_rfl) (by kernel_rfl) (fun _ _ _ h => h) (Or.inl ⟨by rfl, fun wS hSw => by obtain ⟨s0, s1, s2, s3⟩ := hSw; go_simp; first | done | assumption | omega | (simp; omega)⟩) (SC.out _ (Below.refl _ _).drew) ?_
              try simp only [List.setIfInBounds_toArray, List.set_cons_zero, List.set_cons_succ]
              refine takeL (i := 4) (d := 103) (v := .pointer (some ⟨b, off + i * 2 + 1, none⟩)) rfl rfl (by kernel_rfl) (by kernel_rfl) (by kernel_rfl) (by kernel_rfl) (by kernel_rfl) (fun _ _ _ h => h) (Or.inl ⟨by rfl, fun wS hSw => by obtain ⟨s0, s1, s2, s3⟩ := hSw; go_simp; first | done | assumption | omega | (simp; omega)⟩) (SC.out _ (Below.refl _ _).drew) ?_
              try simp only [List.setIfInBounds_toArray, List.set_cons_zero, List.set_cons_succ]
              refine takeL (i := 5) (d := 104) (v := .slice (some ⟨bR, oR, none⟩) xr.length xc2) rfl rfl (by kernel_rfl) (by kernel_rfl) (by kernel_rfl) (by kernel_rfl) (by kernel_rfl) (fun _ _ _ h => h) (Or.inl ⟨by rfl, fun wS hSw => by obtain ⟨s0, s1, s2, s3⟩ := hSw; go_simp; first | done | assumption | omega | (simp; omega)⟩) (SC.out _ (Below.refl _ _).drew) ?_
              try simp only [List.setIfInBounds_toArray, List.set_cons_zero, List.set_cons_succ]
              refine takeL (i := 6) (d := 105) (v := .int .i64 (k : Int)) rfl rfl (by kernel_rfl) (by kernel_rfl) (by kernel_rfl) (by kernel_rfl) (by kernel_rfl) (fun _ _ _ h => h) (Or.inl ⟨by rfl, fun wS hSw => by obtain ⟨s0, s1, s2, s3⟩ := hSw; go_simp; first | done | assumption | omega | (simp; omega)⟩) (SC.out _ (Below.refl _ _).drew) ?_
              try simp only [List.setIfInBounds_toArray, List.set_cons_zero, List.set_cons_succ]
              refine takeL (i := 7) (d := 106) (v := .pointer (some ⟨bR, oR + k * 3, none⟩)) rfl rfl (by kernel_rfl) (by kernel_rfl) (by kernel_rfl) (by kernel_rfl) (by kernel_rfl) (fun _ _ _ h => h) (Or.inl ⟨by rfl, fun wS hSw => by obtain ⟨s0, s1, s2, s3⟩ := hSw; go_simp; first | done | assumption | omega | (simp; omega)⟩) (SC.out _ (Below.refl _ _).drew) ?_
              try simp only [List.setIfInBounds_toArray, List.set_cons_zero, List.set_cons_succ]
              refine takeL (i := 8) (d := 107) (v := .pointer (some ⟨bR, oR + k * 3, none⟩)) rfl rfl (by kernel_rfl) (by kernel_rfl) (by kernel_rfl) (by kernel_rfl) (by kernel_rfl) (fun _ _ _ h => h) (Or.inl ⟨by rfl, fun wS hSw => by obtain ⟨s0, s1, s2, s3⟩ := hSw; go_simp; first | done | assumption | omega | (simp; omega)⟩) (SC.out _ (Below.refl _ _).drew) ?_
              try simp only [List.setIfInBounds_toArray, List.set_cons_zero, List.set_cons_succ]
              refine takeL (i := 9) (d := 108) (v := .int .i64 y.seq) rfl rfl (by kernel_rfl) (by kernel_rfl) (by kernel_rfl) (by kernel_rfl) (by kernel_rfl) (fun _ _ _ h => h) (Or.inl ⟨by rfl, fun wS hSw => by obtain ⟨s0, s1, s2, s3⟩ := hSw; go_simp; first | done | assumption | omega | (simp; omega)⟩) (SC.out _ (Below.refl _ _).drew) ?_
              try simp only [List.setIfInBounds_toArray, List.set_cons_zero, List.set_cons_succ]
              refine takeL (i := 10) (d := 109) (v := .slice (some ⟨b, off, none⟩) m4.length c4) rfl rfl (by kernel_rfl) (by kernel_rfl) (by kernel_rfl) (by kernel_rfl) (by kernel_rfl) (fun _ _ _ h => h) (Or.inl ⟨by rfl, fun wS hSw => by obtain ⟨s0, s1, s2, s3⟩ := hSw; go_simp; first | done | assumption | omega | (simp; omega)⟩) (SC.out _ (Below.refl _ _).drew) ?_
              try simp only [List.setIfInBounds_toArray, List.set_cons_zero, List.set_cons_succ]
              refine takeL (i := 11) (d := 110) (v := .int .i64 (i : Int)) rfl rfl (by kernel_rfl) (by kernel_rfl) (by kernel_rfl) (by kernel_rfl) (by kernel_rfl) (fun _ _ _ h => h) (Or.inl ⟨by rfl, fun wS hSw => by obtain ⟨s0, s1, s2, s3⟩ := hSw; go_simp; first | done | assumption | omega | (simp; omega)⟩) (SC.out _ (Below.refl _ _).drew) ?_
              try simp only [List.setIfInBounds_toArray, List.set_cons_zero, List.set_cons_succ]
              refine takeL (i := 12) (d := 111) (v := .pointer (some ⟨b, off + i * 2, none⟩)) rfl rfl (by kernel_rfl) (by kernel_rfl) (by kernel_rfl) (by kernel_rfl) (by kernel_rfl) (fun _ _ _ h => h) (Or.inl ⟨by rfl, fun wS hSw => by obtain ⟨s0, s1, s2, s3⟩ := hSw; go_simp; first | done | assumption | omega | (simp; omega)⟩) (SC.out _ (Below.refl _ _).drew) ?_
              try simp only [List.setIfInBounds_toArray, List.set_cons_zero, List.set_cons_succ]
              refine takeL (i := 13) (d := 112) (v := .pointer (some ⟨b, off + i * 2 + 1, none⟩)) rfl rfl (by kernel_rfl) (by kernel_rfl) (by kernel_rfl) (by kernel_rfl) (by kernel_rfl) (fun _ _ _ h => h) (Or.inl ⟨by rfl, fun wS hSw => by obtain ⟨s0, s1, s2, s3⟩ := hSw; go_simp; first | done | assumption | omega | (simp; omega)⟩) (SC.out _ (Below.refl _ _).drew) ?_
              try simp only [List.setIfInBounds_toArray, List.set_cons_zero, List.set_cons_succ]
              refine takeL (i := 14) (d := 113) (v := .slice (some ⟨bR, oR, none⟩) xr.length xc2) rfl rfl (by kernel_rfl) (by kernel_rfl) (by kernel_rfl) (by kernel_rfl) (by kernel_rfl) (fun _ _ _ h => h) (Or.inl ⟨by rfl, fun wS hSw => by obtain ⟨s0, s1, s2, s3⟩ := hSw; go_simp; first | done | assumption | omega | (simp; omega)⟩) (SC.out _ (Below.refl _ _).drew) ?_
              try simp only [List.setIfInBounds_toArray, List.set_cons_zero, List.set_cons_succ]
              refine takeL (i := 15) (d := 114) (v := .int .i64 (k : Int)) rfl rfl (by kernel_rfl) (by kernel_rfl) (by kernel_rfl) (by kernel_rfl) (by kernel_rfl) (fun _ _ _ h => h) (Or.inl ⟨by rfl, fun wS hSw => by obtain ⟨s0, s1, s2, s3⟩ := hSw; go_simp; first | done | assumption | omega | (simp; omega)⟩) (SC.out _ (Below.refl _ _).drew) ?_
              try simp only [List.setIfInBounds_toArray, List.set_cons_zero, List.set_cons_succ]
              refine takeL (i := 16) (d := 115) (v := .pointer (some ⟨bR, oR + k * 3, none⟩)) rfl rfl (by kernel_rfl) (by kernel_rfl) (by kernel_rfl) (by kernel_rfl) (by kernel_rfl) (fun _ _ _ h => h) (Or.inl ⟨by rfl, fun wS hSw => by obtain ⟨s0, s1, s2, s3⟩ := hSw; go_simp; first | done | assumption | omega | (simp; omega)⟩) (SC.out _ (Below.refl _ _).drew) ?_
              try simp only [List.setIfInBounds_toArray, List.set_cons_zero, List.set_cons_succ]
              refine takeL (i := 17) (d := 116) (v := .pointer (some ⟨bR, oR + k * 3 + 1, none⟩)) rfl rfl (by kernel_rfl) (by kernel_rfl) (by kernel_rfl) (by kernel_rfl) (by kernel_rfl) (fun _ _ _ h => h) (Or.inl ⟨by rfl, fun wS hSw => by obtain ⟨s0, s1, s2, s3⟩ := hSw; go_simp; first | done | assumption | omega | (simp; omega)⟩) (SC.out _ (Below.refl _ _).drew) ?_
              try simp only [List.setIfInBounds_toArray, List.set_cons_zero, List.set_cons_succ]
              refine takeL (i := 18) (d := 117) (v := .int .i64 y.time) rfl rfl (by kernel_rfl) (by kernel_rfl) (by kernel_rfl) (by kernel_rfl) (by kernel_rfl) (fun _ _ _ h => h) (Or.inl ⟨by rfl, fun wS hSw => by obtain ⟨s0, s1, s2, s3⟩ := hSw; go_simp; first | done | assumption | omega | (simp; omega)⟩) (SC.out _ (Below.refl _ _).drew) ?_
              try simp only [List.setIfInBounds_toArray, List.set_cons_zero, List.set_cons_succ]
              refine takeL (i := 19) (d := 118) (v := .slice (some ⟨b, off, none⟩) m4.length c4) rfl rfl (by kernel_rfl) (by kernel_rfl) (by kernel_rfl) (by kernel_rfl) (by kernel_rfl) (fun _ _ _ h => h) (Or.inl ⟨by rfl, fun wS hSw => by obtain ⟨s0, s1, s2, s3⟩ := hSw; go_simp; first | done | assumption | omega | (simp; omega)⟩) (SC.out _ (Below.refl _ _).drew) ?_
              try simp only [List.setIfInBounds_toArray, List.set_cons_zero, List.set_cons_succ]
              refine takeL (i := 20) (d := 119) (v := .int .i64 (i : Int)) rfl rfl (by kernel_rfl) (by kernel_rfl) (by kernel_rfl) (by kernel_rfl) (by kernel_rfl) (fun _ _ _ h => h) (Or.inl ⟨by rfl, fun wS hSw => by obtain ⟨s0, s1, s2, s3⟩ := hSw; go_simp; first | done | assumption | omega | (simp; omega)⟩) (SC.out _ (Below.refl _ _).drew) ?_
              try simp only [List.setIfInBounds_toArray, List.set_cons_zero, List.set_cons_succ]
              refine takeL (i := 21) (d := 120) (v := .pointer (some ⟨b, off + i * 2, none⟩)) rfl rfl (by kernel_rfl) (by kernel_rfl) (by kernel_rfl) (by kernel_rfl) (by kernel_rfl) (fun _ _ _ h => h) (Or.inl ⟨by rfl, fun wS hSw => by obtain ⟨s0, s1, s2, s3⟩ := hSw; go_simp; first | done | assumption | omega | (simp; omega)⟩) (SC.out _ (Below.refl _ _).drew) ?_
              try simp only [List.setIfInBounds_toArray, List.set_cons_zero, List.set_cons_succ]
              refine takeL (i := 22) (d := 121) (v := .pointer (some ⟨b, off + i * 2 + 1, none⟩)) rfl rfl (by kernel_rfl) (by kernel_rfl) (by kernel_rfl) (by kernel_rfl) (by kernel_rfl) (fun _ _ _ h => h) (Or.inl ⟨by rfl, fun wS hSw => by obtain ⟨s0, s1, s2, s3⟩ := hSw; go_simp; first | done | assumption | omega | (simp; omega)⟩) (SC.out _ (Below.refl _ _).drew) ?_
              try simp only [List.setIfInBounds_toArray, List.set_cons_zero, List.set_cons_succ]
              refine takeL (i := 23) (d := 122) (v := .slice (some ⟨bR, oR, none⟩) xr.length xc2) rfl rfl (by kernel_rfl) (by kernel_rfl) (by kernel_rfl) (by kernel_rfl) (by kernel_rfl) (fun _ _ _ h => h) (Or.inl ⟨by rfl, fun wS hSw => by obtain ⟨s0, s1, s2, s3⟩ := hSw; go_simp; first | done | assumption | omega | (simp; omega)⟩) (SC.out _ (Below.refl _ _).drew) ?_
              try simp only [List.setIfInBounds_toArray, List.set_cons_zero, List.set_cons_succ]
              refine takeL (i := 24) (d := 123) (v := .int .i64 (k : Int)) rfl rfl (by kernel_rfl) (by kernel_rfl) (by kernel_rfl) (by kernel_rfl) (by kernel_rfl) (fun _ _ _ h => h) (Or.inl ⟨by rfl, fun wS hSw => by obtain ⟨s0, s1, s2, s3⟩ := hSw; go_simp; first | done | assumption | omega | (simp; omega)⟩) (SC.out _ (Below.refl _ _).drew) ?_
              try simp only [List.setIfInBounds_toArray, List.set_cons_zero, List.set_cons_succ]
              refine takeL (i := 25) (d := 124) (v := .pointer (some ⟨bR, oR + k * 3, none⟩)) rfl rfl (by kernel_rfl) (by kernel_rfl) (by kernel_rfl) (by kernel_rfl) (by kernel_rfl) (fun _ _ _ h => h) (Or.inl ⟨by rfl, fun wS hSw => by obtain ⟨s0, s1, s2, s3⟩ := hSw; go_simp; first | done | assumption | omega | (simp; omega)⟩) (SC.out _ (Below.refl _ _).drew) ?_
              try simp only [List.setIfInBounds_toArray, List.set_cons_zero, List.set_cons_succ]
              refine takeL (i := 26) (d := 125) (v := .pointer (some ⟨bR, oR + k * 3 + 2, none⟩)) rfl rfl (by kernel_rfl) (by kernel_rfl) (by kernel_rfl) (by kernel_rfl) (by kernel_rfl) (fun _ _ _ h => h) (Or.inl ⟨by rfl, fun wS hSw => by obtain ⟨s0, s1, s2, s3⟩ := hSw; go_simp; first | done | assumption | omega | (simp; omega)⟩) (SC.out _ (Below.refl _ _).drew) ?_
              try simp only [List.setIfInBounds_toArray, List.set_cons_zero, List.set_cons_succ]
              refine takeL (i := 27) (d := 126) (v := .string ⟨y.line.toArray⟩) rfl rfl (by kernel_rfl) (by kernel_rfl) (by kernel_rfl) (by kernel_rfl) (by kernel_rfl) (fun _ _ _ h => h) (Or.inl ⟨by rfl, fun wS hSw => by obtain ⟨s0, s1, s2, s3⟩ := hSw; go_simp; first | done | assumption | omega | (simp; omega)⟩) (SC.out _ (Below.refl _ _).drew) ?_
              try simp only [List.setIfInBounds_toArray, List.set_cons_zero, List.set_cons_succ]
              refine takeL (i := 28) (d := 127) (v := .agg #[.int .i64 y.seq, .int .i64 y.time, .string ⟨y.line.toArray⟩]) rfl rfl (by kernel_rfl) (by kernel_rfl) (by kernel_rfl) (by kernel_rfl) (by kernel_rfl) (fun _ _ _ h => h) (Or.inl ⟨by rfl, fun wS hSw => by obtain ⟨s0, s1, s2, s3⟩ := hSw; go_simp; first | done | assumption | omega | (simp; omega)⟩) (SC.out _ (Below.refl _ _).drew) ?_
              try simp only [List.setIfInBounds_toArray, List.set_cons_zero, List.set_cons_succ]
              refine readyL (rs := [29]) (by kernel_rfl) (by simp) ?_
              refine AllReadyL.cons rfl (fun K hK => ?_) AllReadyL.nil
              rw [if_pos (by rfl)]
              go_simp
              have D1 : Below wr.heap.size wr (wr.drew.alloc (.cells #[.int .i64 y.seq, .int .i64 y.time, .string ⟨y.line.toArray⟩] 46)) := (Below.refl _ _).drew.alloc (Below.refl wr.heap.size wr).drew.size _
              refine hK.out _ _ (SC.out _ D1) ?_
              clear hK K
              try simp only [Act.put, List.setIfInBounds_toArray, List.set_cons_zero, List.set_cons_succ]
              refine readyL (rs := [30]) (by kernel_rfl) (by simp) ?_
              refine AllReadyL.cons rfl (fun K hK => ?_) AllReadyL.nil
              refine Kd.step_app1A (K := KRr) rfl (.tmp 99) (.tmp 128) 33 rfl Tryd.underlying33 infoRr rfl w5.heap.size u8 acc2 y (by simp [Act.eval]) (HA2.out.below D1) wr.heap.size (heap_alloc_new wr.drew _) (by simp [Act.eval]; try rfl) (by have := LAC.out; unfold maxLen; omega) (by have := LAC.out; omega) (HW2.out.trans (D1.mono HW2.out.size)).size ?_
              intro g8 cap8 w8 p8 gg8 at8
              have b8 : Below w5.heap.size w5 w8 := (HW2.out.trans (D1.mono HW2.out.size)).grown gg8 (HW2.out.trans (D1.mono HW2.out.size)).size (fun j hj => ((HA2.out.below D1).lt j hj).1)
              have HP8 := hid p8
              refine hK.out _ _ (SD.out _ b8) ?_
              clear hK K
              try simp only [Act.put, List.setIfInBounds_toArray, List.set_cons_zero, List.set_cons_succ]
              refine readyL (rs := [31]) (by kernel_rfl) (by simp) ?_
              refine AllReadyL.last rfl (fun K hK => ?_)
              rw [if_pos (by rfl)]
              go_simp
              refine hK.out _ _ ?_
              clear hK K
              refine doneL (by kernel_rfl) ?_
              go_wp2_with fail
              go_roundw
              case rel => exact ⟨k + 1, acc2 ++ [y], by go_num, HKL.out, by simpa using HP8, hid (by rw [HXT2.out, HE2.out, List.append_assoc]), hid b8⟩
              case measure => have := HKL.out; simp [intOf]; omega
            · have hke : k = xr.length := by omega
              have hnk : ¬ (k : Int) < (xr.length : Int) := by omega
              have HNX : Hid (acc2 = (m4.take (i + 1)).flatMap (·.rows)) := hid (by
                rw [HE2.out, HXT.out, List.flatMap_append, ← HAE.out, hke, List.take_length]
                simp)
              clear hke hkl hk
              go_wp2_with fail
              go_roundw
              case rel => exact ⟨i + 1, acc2, by go_num, HIL.out, HA2, HNX, HW2⟩
              case measure => have := HIL.out; simp [intOf]; omega
      · -- REST
        have hne : ¬ (i : Int) < (m4.length : Int) := by omega
        have hda : acc = rows := by
          have h1 : m4.take i = m4 := List.take_of_length_le (by omega)
          have h2 : m4.flatMap (·.rows) = (m4.map CV.bare).flatMap (fun p => p.2) := by rw [List.flatMap_map]
          rw [HAE.out, h1, h2, HMC.out]
          exact cutC_flat labs rows n hn1
        rw [hda] at HAC
        have HR8 := hid (And.intro HAC.out.rd trivial)
        obtain ⟨A8, c8, rfl, _⟩ := HR8.out.1.form
        have B9 := hid (B5.out.trans (HW.out.mono B5.out.size))
        have FB : Hid (∀ wx, Below wr.heap.size wr wx → (wx.cell? ⟨w.heap.size, 0, none⟩ = some (.slice A labs.length C) ∧ wx.cell? ⟨w.heap.size, 1, none⟩ = some (.slice A2 rows.length C2)) ∧ RdL wx (.slice A labs.length C) labs ∧ KRr.Rd wx (.slice A2 rows.length C2) rows ∧ Tabs wx ∧ RdE wx v l ∧ Below w.heap.size w wx) := hid (fun wx h => FA.out wx (B9.out.trans (h.mono B9.out.size)))
        have KO := hid (fun wx (h : Below wr.heap.size wr wx) => COwn_is labs rows A A8 C c8 wx (FB.out wx h).2.1 (HR8.out.1.below h) HSZ.out.1 HSZ.out.2.1)
        have KQ := hid (fun wx (h : Below wr.heap.size wr wx) A1 c1 A3 c3 (o1 : RdL wx (.slice A1 labs.length c1) labs) (o3 : KRw.Rd wx (.slice A3 rows.length c3) rows) => CSame_refl labs rows A1 A3 A A2 c1 c3 C C2 wx o1 o3 (FB.out wx h).2.1 (FB.out wx h).2.2.1 (by have := HSZ.out.1; omega) (by have := HSZ.out.2.1; omega))
        clear hda HAE HAC HMC HRN hml2 HPI hi hil
        have MK : Hid (∀ wx, Below wr.heap.size wr wx → Below wr.heap.size wr wx ∧ wx.cell? ⟨w.heap.size, 0, none⟩ = some (.slice A labs.length C) ∧ wx.cell? ⟨w.heap.size, 1, none⟩ = some (.slice A2 rows.length C2)) := hid (fun wx h => ⟨h, (FB.out wx h).1⟩)
        go_wp2_with fail
        refine wp_region_held_drew (S := fun wx => Below wr.heap.size wr wx ∧ wx.cell? ⟨w.heap.size, 0, none⟩ = some (.slice A labs.length C) ∧ wx.cell? ⟨w.heap.size, 1, none⟩ = some (.slice A2 rows.length C2)) (by kernel_rfl) (MK.out _ (Below.refl _ _).drew) (fun hHeld => ?_)
        refine takeAt (i := 0) (d := 130) (v := .pointer (some ⟨w.heap.size, 0, none⟩)) rfl rfl (by kernel_rfl) (by kernel_rfl) (by kernel_rfl) (fun _ _ _ h => h) (Or.inl ⟨by rfl, fun wS hSw => by obtain ⟨-, s0, s1⟩ := hSw; go_simp; first | done | assumption | omega | (simp; omega)⟩) hHeld ?_
        try simp only [List.setIfInBounds_toArray, List.set_cons_zero, List.set_cons_succ]
        refine takeAt (i := 1) (d := 131) (v := .slice A labs.length C) rfl rfl (by kernel_rfl) (by kernel_rfl) (by kernel_rfl) (fun _ _ _ h => h) (Or.inl ⟨by rfl, fun wS hSw => by obtain ⟨-, s0, s1⟩ := hSw; go_simp; first | done | assumption | omega | (simp; omega)⟩) hHeld ?_
        try simp only [List.setIfInBounds_toArray, List.set_cons_zero, List.set_cons_succ]
        refine takeAt (i := 2) (d := 132) (v := .slice A8 rows.length c8) rfl rfl (by kernel_rfl) (by kernel_rfl) (by kernel_rfl) (fun _ _ _ h => h) (Or.inl ⟨by rfl, fun wS hSw => by obtain ⟨-, s0, s1⟩ := hSw; go_simp; first | done | assumption | omega | (simp; omega)⟩) hHeld ?_
        try simp only [List.setIfInBounds_toArray, List.set_cons_zero, List.set_cons_succ]
        refine takeAt (i := 3) (d := 133) (v := .agg #[.slice A labs.length C, .slice A8 rows.length c8]) rfl rfl (by kernel_rfl) (by kernel_rfl) (by kernel_rfl) (fun _ _ _ h => h) (Or.inl ⟨by rfl, fun wS hSw => by obtain ⟨-, s0, s1⟩ := hSw; go_simp; first | done | assumption | omega | (simp; omega)⟩) hHeld ?_
        try simp only [List.setIfInBounds_toArray, List.set_cons_zero, List.set_cons_succ]
        refine takeAt (i := 5) (d := 135) (v := .agg #[.slice A labs.length C, .slice A2 rows.length C2]) rfl rfl (by kernel_rfl) (by kernel_rfl) (by kernel_rfl) (fun _ _ _ h => h) (Or.inl ⟨by rfl, fun wS hSw => by obtain ⟨-, s0, s1⟩ := hSw; go_simp; first | done | assumption | omega | (simp; omega)⟩) hHeld ?_
        try simp only [List.setIfInBounds_toArray, List.set_cons_zero, List.set_cons_succ]
        refine wpAnyH_ready (rs := [4]) (by kernel_rfl) (by simp) ?_
        refine AllReadyH.cons rfl (fun K hK => ?_) AllReadyH.nil
        try rw [if_pos (by rfl)]
        go_simp
        go_at_call 12
        have hO5 := KO.out _ hHeld.1
        unfold ChOut at hO5
        refine hO5.mono ?_
        rintro e w6 ⟨A6, c6, A7, c7, rfl, o6, o7, b6⟩
        have b69 := hHeld.1.trans (b6.mono hHeld.1.size)
        refine hK.out _ _ (MK.out _ b69) (fun hHeld => ?_)
        clear hK K hO5
        try simp only [Act.put, List.setIfInBounds_toArray, List.set_cons_zero, List.set_cons_succ]
        refine wpAnyH_ready (rs := [6]) (by kernel_rfl) (by simp) ?_
        refine AllReadyH.cons rfl (fun K hK => ?_) AllReadyH.nil
        try rw [if_pos (by rfl)]
        go_simp
        go_at_call 16
        refine (KQ.out _ hHeld.1 _ _ _ _ o6.rd o7.rd).mono ?_
        rintro e w7 ⟨rfl, b7⟩
        have b79 := hHeld.1.trans (b7.mono hHeld.1.size)
        refine hK.out _ _ (MK.out _ b79) (fun hHeld => ?_)
        clear hK K
        try simp only [Act.put, List.setIfInBounds_toArray, List.set_cons_zero, List.set_cons_succ]
        refine takeAt (i := 7) (d := 137) (v := .bool false) rfl rfl (by kernel_rfl) (by kernel_rfl) (by kernel_rfl) (fun _ _ _ h => h) (Or.inl ⟨by rfl, fun wS hSw => by obtain ⟨-, s0, s1⟩ := hSw; go_simp; first | done | assumption | omega | (simp; omega)⟩) hHeld ?_
        try simp only [List.setIfInBounds_toArray, List.set_cons_zero, List.set_cons_succ]
        refine wpAnyH_done (by kernel_rfl) ?_ _
        have HB7 := hid b79
        have HB7w := hid (FB.out w7 b79)
        clear hHeld b79 b69 b7 b6 o6 o7 KO KQ
        have hA := EAll_is v l w7 HB7w.out.2.2.2.2.1 HEN.out.1 HEN.out.2.2
        have hG := fun v1 w1 (h1 : RdE w1 v1 l) (hb : Below w7.heap.size w7 w1) => Group_is v1 l w1 h1 (HB7w.out.2.2.2.1.below hb) HEN.out.1 HEN.out.2.1 HEN.out.2.2
        unfold AllOut at hA
        unfold GrOut at hG
        go_upto_region 18 with (first
          | (go_at_call 5; refine hA.mono ?_; rintro e w8 ⟨v1, rfl, r1, b8⟩; clear hA)
          | (go_at_call 7; refine (hG _ _ r1 b8).mono ?_; rintro e w9 ⟨u2, m2, rfl, o2, g2, b9⟩; have B79 := hid (b8.trans (b9.mono b8.size)); clear hG r1 b8 b9))
        have HO9 := hid o2
        have HG9 := hid g2
        have B9w := hid (HB7.out.trans (B79.out.mono HB7.out.size))
        have F9 := hid (FB.out w9 B9w.out)
        have RD9 := hid o2.rd
        obtain ⟨A9, c9, rfl, _⟩ := RD9.out.1.form
        have b0 : Below w9.heap.size w9 (w9.alloc (.map #[] 0)) := (Below.refl _ w9).alloc (Nat.le_refl _) _
        have ms0 := MEn.made w9
        clear o2 g2
        generalize hW1 : w9.alloc (.map #[] 0) = W1 at *
        have hMM := @run_makeMap Tryd.prog
        go_wp2_with fail
        clear hMM hW1 HB7w HR8 MK HM4 FB FA HO5 HO4
        have hml : m2.length ≤ l.length := by have := entsC_pos HG9.out; rw [List.length_map] at this; exact this
        go_loopw [13] (fun iv wr => ∃ (i : Nat) (E : List EV), iv = .int .i64 i ∧ i ≤ m2.length ∧ Hid (MEn wr w9.heap.size E) ∧ Hid (E.map (·.1) = entsC ((m2.take i).map CV.bare) ∧ ∀ x ∈ E, RdL w9 (.slice x.2.1 x.1.labs.length x.2.2) x.1.labs) ∧ Hid (Below w9.heap.size w9 wr)) (fun iv _ => m2.length - (intOf iv).toNat)
        case atStart => exact ⟨0, [], rfl, by omega, hid ms0, hid ⟨rfl, by simp⟩, hid b0⟩
        case round =>
          obtain ⟨i, E, rfl, hi, HM, HE, HW⟩ := hrel
          have hlm : m2.length ≤ 4611686018427387904 := by have := HEN.out.2.2; omega
          by_cases hil : i < m2.length
          · obtain ⟨b, off, hA9, hb9, hc9⟩ := RD9.out.1.at hil
            subst hA9
            have hrd := hid (RD9.out.2 _ (List.getElem_mem hil))
            have how := hid (rSl_own (HO9.out.2 _ (List.getElem_mem hil)).1)
            have hchr : chR (m2[i]).labs (m2[i]).rows = true := HG9.out.toR.right (m2[i]).bare (List.mem_map.2 ⟨_, List.getElem_mem hil, rfl⟩)
            have HXT : Hid (m2.take (i + 1) = m2.take i ++ [m2[i]]) := hid (List.take_succ_eq_append_getElem hil)
            have HNN : Hid (∀ k (hk : k < (m2[i]).rows.length), ¬ ((m2[i]).rows[k]).seq ∈ (entsC ((m2.take i).map CV.bare) ++ ((m2[i]).rows.take k).map (entC (m2[i]).labs)).map (·.seq) ∧ entC (m2[i]).labs ((m2[i]).rows[k]) ∈ l ∧ (entsC ((m2.take i).map CV.bare) ++ ((m2[i]).rows.take k).map (entC (m2[i]).labs)).length < l.length) := hid (fun k hk => by
              have h := next_new HG9.out (i := i) (by rw [List.length_map]; exact hil) (k := k) (by rw [List.getElem_map]; exact hk)
              simp only [List.getElem_map, ← List.map_take] at h
              exact h)
            have KP : Hid (∀ wx, Below w9.heap.size w9 wx → wx.cell? ⟨b, off + i * 2, none⟩ = some ((m2[i]).l) ∧ wx.cell? ⟨b, off + i * 2 + 1, none⟩ = some ((m2[i]).r)) := hid (fun wx h => ⟨(h.cell (p := ⟨b, off + i * 2, none⟩) hb9).trans (hc9 0 _ (by decide) rfl), (h.cell (p := ⟨b, off + i * 2 + 1, none⟩) hb9).trans (hc9 1 _ (by decide) rfl)⟩)
            have HIL := hid hil
            have hiI : (i : Int) < (m2.length : Int) := by omega
            generalize m2[i] = x at *
            obtain ⟨xl, xA, xc, xr, xA2, xc2⟩ := x
            unfold CV.l CV.r at KP
            unfold CV.l at how
            simp only at KP how hchr HNN
            have hxr : xr.length ≤ 1000 := ((chR_iff xl xr).1 hchr).1.2
            have hRt := CRight_is xl xr xA xA2 xc xc2 wr (hrd.out.1.below HW.out) (hrd.out.2.below HW.out) (F9.out.2.2.2.1.below HW.out) (fun y hy => by
              obtain ⟨k, hk, rfl⟩ := List.mem_iff_getElem.1 hy
              exact HEN.out.1 _ (HNN.out k hk).2.1) (by omega)
            rw [hchr] at hRt
            obtain ⟨c0, c1⟩ := KP.out wr HW.out
            clear hc9 hb9 hil hchr
            go_upto_region 24 with (go_at_call 14; refine hRt.mono ?_; rintro e w10 ⟨rfl, b10⟩; clear hRt)
            have HM10 := hid (HM.out.touch (Tch.of_below (S := fun _ => False) b10) (fun h => h))
            have HW10 := hid (HW.out.trans (b10.mono HW.out.size))
            clear b10 c0 c1
            go_wp2_with fail
            go_loopw [14] (fun kv wi => ∃ (k : Nat) (E2 : List EV), kv = .int .i64 k ∧ k ≤ xr.length ∧ Hid (MEn wi w9.heap.size E2) ∧ Hid (E2.map (·.1) = E.map (·.1) ++ (xr.take k).map (entC xl) ∧ ∀ x ∈ E2, RdL w9 (.slice x.2.1 x.1.labs.length x.2.2) x.1.labs) ∧ Hid (Below w9.heap.size w9 wi)) (fun kv _ => xr.length - (intOf kv).toNat)
            case atStart => exact ⟨0, E, rfl, by omega, HM10, hid ⟨by simp, HE.out.2⟩, HW10⟩
            case round =>
              obtain ⟨k, E2, rfl, hk, HM2, HE2, HW2⟩ := hrel
              generalize wr = wi at *
              obtain ⟨c0, c1⟩ := KP.out wi HW2.out
              by_cases hkl : k < xr.length
              · obtain ⟨bR, oR, hxA2, hbR, hcR⟩ := hrd.out.2.at hkl
                subst hxA2
                have HXT2 : Hid (xr.take (k + 1) = xr.take k ++ [xr[k]]) := hid (List.take_succ_eq_append_getElem hkl)
                have hnn := HNN.out k hkl
                have HNW : Hid (¬ (xr[k]).seq ∈ E2.map (·.1.seq) ∧ wfI (xr[k]).seq ∧ E2.length < maxLen) := hid (by
                  have e : E2.map (·.1) = entsC ((m2.take i).map CV.bare) ++ (xr.take k).map (entC xl) := by rw [HE2.out.1, HE.out.1]
                  refine ⟨?_, HEN.out.2.1 _ hnn.2.1, ?_⟩
                  · have e2 : E2.map (·.1.seq) = (E2.map (·.1)).map (·.seq) := by rw [List.map_map]; rfl
                    rw [e2, e]
                    exact hnn.1
                  · have e3 := congrArg List.length e
                    rw [List.length_map] at e3
                    have := HEN.out.2.2
                    unfold maxLen
                    omega)
                have SD : Hid (∀ wx, Below w9.heap.size w9 wx → (wx.cell? ⟨b, off + i * 2, none⟩ = some (.slice xA xl.length xc) ∧ wx.cell? ⟨b, off + i * 2 + 1, none⟩ = some (.slice (some ⟨bR, oR, none⟩) xr.length xc2)) ∧ wx.cell? ⟨bR, oR + k * 3, none⟩ = some (.int .i64 xr[k].seq) ∧ wx.cell? ⟨bR, oR + k * 3 + 1, none⟩ = some (.int .i64 xr[k].time) ∧ wx.cell? ⟨bR, oR + k * 3 + 2, none⟩ = some (.string ⟨xr[k].line.toArray⟩)) := hid (fun wx h => ⟨KP.out wx h, (h.cell (p := ⟨bR, oR + k * 3, none⟩) hbR).trans (hcR 0 _ (by decide) rfl), (h.cell (p := ⟨bR, oR + k * 3 + 1, none⟩) hbR).trans (hcR 1 _ (by decide) rfl), (h.cell (p := ⟨bR, oR + k * 3 + 2, none⟩) hbR).trans (hcR 2 _ (by decide) rfl)⟩)
                have HKL := hid hkl
                have hkI : (k : Int) < (xr.length : Int) := by omega
                generalize xr[k] = y at *
                obtain ⟨-, d0, d1, d2⟩ := SD.out wi HW2.out
                clear hcR hbR hkl hnn
                go_upto_region 28 with fail
                obtain ⟨wA, hwA⟩ : ∃ wA, wA = wi.alloc (.cells #[.int .i64 y.seq, .int .i64 y.time, .string ⟨y.line.toArray⟩] 45) := ⟨_, rfl⟩
                rw [← hwA]
                have bA : Below wi.heap.size wi wA := by rw [hwA]; exact (Below.refl _ wi).alloc (Nat.le_refl _) _
                have xA0 : wA.heap[wi.heap.size]? = some (.cells #[.int .i64 y.seq, .int .i64 y.time, .string ⟨y.line.toArray⟩] 45 (0, 0)) := by rw [hwA]; exact heap_alloc_new wi _
                have hmA := HM2.out.touch (Tch.of_below (S := fun _ => False) bA) (fun h => h)
                have lk := hmA.no y.seq HNW.out.2.1 HNW.out.1
                clear hwA d0 d1 d2
                have d0 : wA.cell? ⟨wi.heap.size, 0, none⟩ = some (.int .i64 y.seq) := held_cell xA0 rfl
                go_upto_region 31 with fail
                obtain ⟨wB, hwB⟩ : ∃ wB, wB = wA.alloc (.cells #[.int .i64 0, .int .i64 0, .slice none 0 0, .string ⟨#[]⟩] 50) := ⟨_, rfl⟩
                first
                  | rw [← hwB]
                  | (trace "NOTB"; trace_state)
                have bB : Below wA.heap.size wA wB := by rw [hwB]; exact (Below.refl _ wA).alloc (Nat.le_refl _) _
                have bB2 : Below wA.heap.size wA wB.drew := bB.drew
                have hmB := hmA.touch (Tch.of_below (S := fun _ => False) bB2) (fun h => h)
                have xB0 := (bB2.block _ (row_lt xA0)).trans xA0
                have MB : Hid ((fun wx => wx.cell? ⟨wi.heap.size, 0, none⟩ = some (.int .i64 y.seq) ∧ wx.cell? ⟨wi.heap.size, 1, none⟩ = some (.int .i64 y.time) ∧ wx.cell? ⟨wi.heap.size, 2, none⟩ = some (.string ⟨y.line.toArray⟩) ∧ wx.cell? ⟨b, off + i * 2, none⟩ = some (.slice xA xl.length xc)) wB.drew) := hid ⟨held_cell xB0 rfl, held_cell xB0 rfl, held_cell xB0 rfl, (SD.out _ (HW2.out.trans ((bA.trans (bB2.mono bA.size)).mono HW2.out.size))).1.1⟩
                obtain ⟨d, p, hs⟩ := how.out
                obtain ⟨wC, hst, hmC, tC⟩ := hmB.store ((entC xl y, xA, xc) : EV) HNW.out.2.1 HNW.out.1 hs HNW.out.2.2
                unfold eV entC at hst
                simp only at hst
                have HMC2 := hid hmC
                have HBC : Hid (Below w9.heap.size w9 wC) := hid (Tch.below (HW2.out.trans ((bA.trans (bB2.mono bA.size)).mono HW2.out.size)) tC (fun j hj => by omega) (by have := HW2.out.size; have := bA.size; have := bB2.size; omega))
                clear hmC tC hs hmB hmA lk xA0 xB0 hwB bA bB bB2
                refine wp_region_L 15 (fun wx => wx.cell? ⟨wi.heap.size, 0, none⟩ = some (.int .i64 y.seq) ∧ wx.cell? ⟨wi.heap.size, 1, none⟩ = some (.int .i64 y.time) ∧ wx.cell? ⟨wi.heap.size, 2, none⟩ = some (.string ⟨y.line.toArray⟩) ∧ wx.cell? ⟨b, off + i * 2, none⟩ = some (.slice xA xl.length xc)) (by kernel_rfl) ?_
                refine takeL (i := 0) (d := 180) (v := .map (some w9.heap.size)) rfl rfl (by kernel_rfl) (by kernel_rfl) (by kernel_rfl) (by kernel_rfl) (by kernel_rfl) (fun _ _ _ h => h) (Or.inl ⟨by rfl, fun wS hSw => by obtain ⟨s0, s1, s2, s3⟩ := hSw; go_simp; first | done | assumption | omega | (simp; omega)⟩) MB.out ?_
                try simp only [List.setIfInBounds_toArray, List.set_cons_zero, List.set_cons_succ]
                refine takeL (i := 1) (d := 181) (v := .pointer (some ⟨wi.heap.size, 0, none⟩)) rfl rfl (by kernel_rfl) (by kernel_rfl) (by kernel_rfl) (by kernel_rfl) (by kernel_rfl) (fun _ _ _ h => h) (Or.inl ⟨by rfl, fun wS hSw => by obtain ⟨s0, s1, s2, s3⟩ := hSw; go_simp; first | done | assumption | omega | (simp; omega)⟩) MB.out ?_
                try simp only [List.setIfInBounds_toArray, List.set_cons_zero, List.set_cons_succ]
                refine takeL (i := 2) (d := 182) (v := .int .i64 y.seq) rfl rfl (by kernel_rfl) (by kernel_rfl) (by kernel_rfl) (by kernel_rfl) (by kernel_rfl) (fun _ _ _ h => h) (Or.inl ⟨by rfl, fun wS hSw => by obtain ⟨s0, s1, s2, s3⟩ := hSw; go_simp; first | done | assumption | omega | (simp; omega)⟩) MB.out ?_
                try simp only [List.setIfInBounds_toArray, List.set_cons_zero, List.set_cons_succ]
                refine takeL (i := 3) (d := 183) (v := .pointer (some ⟨wi.heap.size, 0, none⟩)) rfl rfl (by kernel_rfl) (by kernel_rfl) (by kernel_rfl) (by kernel_rfl) (by kernel_rfl) (fun _ _ _ h => h) (Or.inl ⟨by rfl, fun wS hSw => by obtain ⟨s0, s1, s2, s3⟩ := hSw; go_simp; first | done | assumption | omega | (simp; omega)⟩) MB.out ?_
                try simp only [List.setIfInBounds_toArray, List.set_cons_zero, List.set_cons_succ]
                refine takeL (i := 4) (d := 184) (v := .int .i64 y.seq) rfl rfl (by kernel_rfl) (by kernel_rfl) (by kernel_rfl) (by kernel_rfl) (by kernel_rfl) (fun _ _ _ h => h) (Or.inl ⟨by rfl, fun wS hSw => by obtain ⟨s0, s1, s2, s3⟩ := hSw; go_simp; first | done | assumption | omega | (simp; omega)⟩) MB.out ?_
                try simp only [List.setIfInBounds_toArray, List.set_cons_zero, List.set_cons_succ]
                refine takeL (i := 5) (d := 185) (v := .pointer (some ⟨wi.heap.size, 1, none⟩)) rfl rfl (by kernel_rfl) (by kernel_rfl) (by kernel_rfl) (by kernel_rfl) (by kernel_rfl) (fun _ _ _ h => h) (Or.inl ⟨by rfl, fun wS hSw => by obtain ⟨s0, s1, s2, s3⟩ := hSw; go_simp; first | done | assumption | omega | (simp; omega)⟩) MB.out ?_
                try simp only [List.setIfInBounds_toArray, List.set_cons_zero, List.set_cons_succ]
                refine takeL (i := 6) (d := 186) (v := .int .i64 y.time) rfl rfl (by kernel_rfl) (by kernel_rfl) (by kernel_rfl) (by kernel_rfl) (by kernel_rfl) (fun _ _ _ h => h) (Or.inl ⟨by rfl, fun wS hSw => by obtain ⟨s0, s1, s2, s3⟩ := hSw; go_simp; first | done | assumption | omega | (simp; omega)⟩) MB.out ?_
                try simp only [List.setIfInBounds_toArray, List.set_cons_zero, List.set_cons_succ]
                refine takeL (i := 7) (d := 187) (v := .slice (some ⟨b, off, none⟩) m2.length c9) rfl rfl (by kernel_rfl) (by kernel_rfl) (by kernel_rfl) (by kernel_rfl) (by kernel_rfl) (fun _ _ _ h => h) (Or.inl ⟨by rfl, fun wS hSw => by obtain ⟨s0, s1, s2, s3⟩ := hSw; go_simp; first | done | assumption | omega | (simp; omega)⟩) MB.out ?_
                try simp only [List.setIfInBounds_toArray, List.set_cons_zero, List.set_cons_succ]
                refine takeL (i := 8) (d := 188) (v := .int .i64 (i : Int)) rfl rfl (by kernel_rfl) (by kernel_rfl) (by kernel_rfl) (by kernel_rfl) (by kernel_rfl) (fun _ _ _ h => h) (Or.inl ⟨by rfl, fun wS hSw => by obtain ⟨s0, s1, s2, s3⟩ := hSw; go_simp; first | done | assumption | omega | (simp; omega)⟩) MB.out ?_
                try simp only [List.setIfInBounds_toArray, List.set_cons_zero, List.set_cons_succ]
                refine takeL (i := 9) (d := 189) (v := .pointer (some ⟨b, off + i * 2, none⟩)) rfl rfl (by kernel_rfl) (by kernel_rfl) (by kernel_rfl) (by kernel_rfl) (by kernel_rfl) (fun _ _ _ h => h) (Or.inl ⟨by rfl, fun wS hSw => by obtain ⟨s0, s1, s2, s3⟩ := hSw; go_simp; first | done | assumption | omega | (simp; omega)⟩) MB.out ?_
                try simp only [List.setIfInBounds_toArray, List.set_cons_zero, List.set_cons_succ]
                refine takeL (i := 10) (d := 190) (v := .pointer (some ⟨b, off + i * 2, none⟩)) rfl rfl (by kernel_rfl) (by kernel_rfl) (by kernel_rfl) (by kernel_rfl) (by kernel_rfl) (fun _ _ _ h => h) (Or.inl ⟨by rfl, fun wS hSw => by obtain ⟨s0, s1, s2, s3⟩ := hSw; go_simp; first | done | assumption | omega | (simp; omega)⟩) MB.out ?_
                try simp only [List.setIfInBounds_toArray, List.set_cons_zero, List.set_cons_succ]
                refine takeL (i := 11) (d := 191) (v := .slice xA xl.length xc) rfl rfl (by kernel_rfl) (by kernel_rfl) (by kernel_rfl) (by kernel_rfl) (by kernel_rfl) (fun _ _ _ h => h) (Or.inl ⟨by rfl, fun wS hSw => by obtain ⟨s0, s1, s2, s3⟩ := hSw; go_simp; first | done | assumption | omega | (simp; omega)⟩) MB.out ?_
                try simp only [List.setIfInBounds_toArray, List.set_cons_zero, List.set_cons_succ]
                refine takeL (i := 12) (d := 192) (v := .pointer (some ⟨wi.heap.size, 2, none⟩)) rfl rfl (by kernel_rfl) (by kernel_rfl) (by kernel_rfl) (by kernel_rfl) (by kernel_rfl) (fun _ _ _ h => h) (Or.inl ⟨by rfl, fun wS hSw => by obtain ⟨s0, s1, s2, s3⟩ := hSw; go_simp; first | done | assumption | omega | (simp; omega)⟩) MB.out ?_
                try simp only [List.setIfInBounds_toArray, List.set_cons_zero, List.set_cons_succ]
                refine takeL (i := 13) (d := 193) (v := .string ⟨y.line.toArray⟩) rfl rfl (by kernel_rfl) (by kernel_rfl) (by kernel_rfl) (by kernel_rfl) (by kernel_rfl) (fun _ _ _ h => h) (Or.inl ⟨by rfl, fun wS hSw => by obtain ⟨s0, s1, s2, s3⟩ := hSw; go_simp; first | done | assumption | omega | (simp; omega)⟩) MB.out ?_
                try simp only [List.setIfInBounds_toArray, List.set_cons_zero, List.set_cons_succ]
                refine takeL (i := 14) (d := 194) (v := .agg #[.int .i64 y.seq, .int .i64 y.time, .slice xA xl.length xc, .string ⟨y.line.toArray⟩]) rfl rfl (by kernel_rfl) (by kernel_rfl) (by kernel_rfl) (by kernel_rfl) (by kernel_rfl) (fun _ _ _ h => h) (Or.inl ⟨by rfl, fun wS hSw => by obtain ⟨s0, s1, s2, s3⟩ := hSw; go_simp; first | done | assumption | omega | (simp; omega)⟩) MB.out ?_
                try simp only [List.setIfInBounds_toArray, List.set_cons_zero, List.set_cons_succ]
                refine readyL (rs := [15]) (by kernel_rfl) (by simp) ?_
                refine AllReadyL.last rfl (fun K hK => ?_)
                rw [if_pos (by rfl)]
                go_simp
                refine hK.out _ _ ?_
                clear hK K
                refine doneL (by kernel_rfl) ?_
                clear hst
                go_wp2_with fail
                go_roundw
                case rel => exact ⟨k + 1, E2 ++ [((entC xl y, xA, xc) : EV)], by go_num, HKL.out, HMC2, hid ⟨by rw [List.map_append, HE2.out.1, HXT2.out, List.map_append, List.append_assoc]; rfl, fun x hx => by
                  rcases List.mem_append.1 hx with hx | hx
                  · exact HE2.out.2 x hx
                  · obtain rfl := List.mem_singleton.1 hx
                    exact hrd.out.1⟩, HBC⟩
                case measure => have := HKL.out; simp [intOf]; omega
              · have hke : k = xr.length := by omega
                have hnk : ¬ (k : Int) < (xr.length : Int) := by omega
                have HNX : Hid (E2.map (·.1) = entsC ((m2.take (i + 1)).map CV.bare)) := hid (by
                  rw [HE2.out.1, HXT.out, HE.out.1, hke, List.take_length]
                  unfold entsC CV.bare
                  simp)
                clear hke hkl hk
                go_wp2_with fail
                go_roundw
                case rel => exact ⟨i + 1, E2, by go_num, HIL.out, HM2, hid ⟨HNX.out, HE2.out.2⟩, HW2⟩
                case measure => have := HIL.out; simp [intOf]; omega
          · have hne2 : ¬ (i : Int) < (m2.length : Int) := by omega
            have HPE : Hid ((E.map (·.1)).Perm (gd l)) := hid (by
              rw [HE.out.1, List.take_of_length_le (by omega)]
              exact HG9.out.ents)
            have HEL := hid HE.out.2
            generalize wr = wo at *
            have BO := hid (HW.out)
            clear HE hil hi hml hlm
            obtain ⟨X, hX, hV, hL⟩ := F9.out.2.2.2.2.1.places
            have hXl : X.length = l.length := by rw [← hX, List.length_map]
            have hmX : ∀ p ∈ X, p.1 ∈ l := fun p hp => by rw [← hX]; exact List.mem_map.2 ⟨p, hp, rfl⟩
            have HXZ : Hid (∀ p ∈ X, entZ p.1 ∧ wfI p.1.seq ∧ RdL w9 (.slice p.2.1 p.1.labs.length p.2.2) p.1.labs) := hid (fun p hp => ⟨HEN.out.1 _ (hmX p hp), HEN.out.2.1 _ (hmX p hp), hL p hp⟩)
            have HGE : Hid ((E.map (·.1)).Perm ((gdV X).map (·.1))) := hid (by rw [gd_of, hX]; exact HPE.out)
            have HLEN : Hid (X.length * 56 ≤ 140737488351232) := hid (by have := HEN.out.2.2; omega)
            have HF9 := hid (And.intro F9.out.2.2.2.1 F9.out.2.2.2.2.2)
            obtain ⟨Av, cv, rfl, hlc, hcell⟩ := hV
            have HC := hid hcell
            have HMO := hid (And.intro (HM.out.touch (Tch.alloc (fun _ => False) wo (.map #[] 0)) (fun h => h)) (And.intro (MBf.made wo) ((BO.out).alloc BO.out.size (.map #[] 0))))
            have HLT9 := hid (HM.out.lt)
            clear hX hL hmX hcell HPE F9 hXl HM HW
            have hMM := @run_makeMap Tryd.prog
            obtain ⟨W5, hW5⟩ : ∃ W5, W5 = wo.alloc (.map #[] 0) := ⟨_, rfl⟩
            rw [← hW5] at HMO
            go_upto_region 34 with fail
            first
              | rw [← hW5]
              | (trace "NOTW5"; trace_state)
            clear hMM hW5 hne2
            go_wp2_with fail
            go_loopw [18, 20] (fun nv iv wr => ∃ (i n q : Nat) (f : Int → Bool), iv = .int .i64 i ∧ nv = .int .i64 n ∧ i ≤ X.length ∧ Hid (MBf wr wo.heap.size q f ∧ MEn wr w9.heap.size E) ∧ Hid (n = (gdV (X.take i)).length ∧ q ≤ i ∧ ∀ k, f k = true ↔ k ∈ (gdV (X.take i)).map (·.1.seq)) ∧ Hid (Below w9.heap.size w9 wr)) (fun _ iv _ => X.length - (intOf iv).toNat)
            case atStart => exact ⟨0, 0, 0, _, rfl, rfl, by omega, hid ⟨HMO.out.2.1, HMO.out.1⟩, hid ⟨rfl, by omega, by simp [gdV]⟩, hid HMO.out.2.2⟩
            case round =>
              obtain ⟨i, n, q, f, rfl, rfl, hi, HMM, HQ, HW⟩ := hrel
              have hLm : X.length ≤ 4611686018427387904 := by have := HLEN.out; omega
              by_cases hlt : i < X.length
              · obtain ⟨b, off, rfl, hb, hcl⟩ := HC.out (by omega)
                have hcl := hcl i hlt
                have hxm := List.getElem_mem hlt
                have HTK : Hid (gdV (X.take (i + 1)) = gdStep (gdV (X.take i)) X[i]) := hid (by rw [List.take_succ_eq_append_getElem hlt, gdV_snoc])
                have HSB : Hid (∀ x ∈ gdV (X.take (i + 1)), x ∈ gdV X) := hid (gdV_sub X (i + 1))
                have HX1 := hid (HXZ.out _ hxm)
                have HLT := hid hlt
                have HGL : Hid ((gdV (X.take i)).length ≤ i) := hid (by have := gdV_len (X.take i); rw [List.length_take] at this; omega)
                generalize gdV (X.take i) = acc at *
                generalize X[i] = x at *
                have KX : Hid (∀ wx, Below w9.heap.size w9 wx → wx.cell? ⟨b, off + i * 4, none⟩ = some (.int .i64 x.1.seq) ∧ wx.cell? ⟨b, off + i * 4 + 1, none⟩ = some (.int .i64 x.1.time) ∧ wx.cell? ⟨b, off + i * 4 + 2, none⟩ = some (.slice x.2.1 x.1.labs.length x.2.2) ∧ wx.cell? ⟨b, off + i * 4 + 3, none⟩ = some (.string ⟨x.1.line.toArray⟩)) := hid (fun wx h => ⟨(h.cell (p := ⟨b, off + i * 4, none⟩) hb).trans hcl.1, (h.cell (p := ⟨b, off + i * 4 + 1, none⟩) hb).trans hcl.2.1, (h.cell (p := ⟨b, off + i * 4 + 2, none⟩) hb).trans hcl.2.2.1, (h.cell (p := ⟨b, off + i * 4 + 3, none⟩) hb).trans hcl.2.2.2⟩)
                have hil : (i : Int) < (X.length : Int) := by omega
                clear hcl hxm hlt hb
                obtain ⟨⟨sq, tm, lb, ln⟩, Ax, cx⟩ := x
                simp only at KX HX1
                obtain ⟨c0, c1, c2, c3⟩ := KX.out wr HW.out
                have hRt := ERight_is ⟨sq, tm, lb, ln⟩ Ax cx wr (HX1.out.2.2.below HW.out) (HF9.out.1.below HW.out) HX1.out.1
                unfold entV at hRt
                simp only at hRt
                by_cases hr : entR ⟨sq, tm, lb, ln⟩ = true
                · rw [hr] at hRt
                  by_cases hmem : f sq = true
                  · have FIN : Hid (gdV (X.take (i + 1)) = acc) := hid (by
                      rw [HTK.out]
                      unfold gdStep
                      rw [if_neg (fun h => h.2 ((HQ.out.2.2 sq).1 hmem))])
                    have HME := hid hmem
                    clear HTK hmem hr
                    go_wp2_with (first
                      | (go_at_call 17; refine hRt.mono ?_; rintro e w5 ⟨rfl, b5⟩
                         have HB5 := hid (HW.out.trans (b5.mono HW.out.size))
                         obtain ⟨d0, d1, d2, d3⟩ := KX.out w5 HB5.out
                         have hm5 := HMM.out.1.touch (Tch.of_below (S := fun _ => False) b5) (fun h => h)
                         have lk := hm5.look sq HX1.out.2.1
                         rw [HME.out] at lk
                         clear hRt)
                      | fail)
                    go_roundw
                    case rel => exact ⟨i + 1, n, q, f, by go_num, rfl, HLT.out, hid ⟨hm5, HMM.out.2.touch (Tch.of_below (S := fun _ => False) b5) (fun h => h)⟩, hid (by have := HQ.out; rw [FIN.out]; exact ⟨this.1, by omega, this.2.2⟩), HB5⟩
                    case measure => have := HLT.out; simp [intOf]; omega
                  · have hmf : f sq = false := by simpa using hmem
                    have FIN : Hid (gdV (X.take (i + 1)) = acc ++ [(⟨sq, tm, lb, ln⟩, Ax, cx)]) := hid (by
                      rw [HTK.out]
                      unfold gdStep
                      rw [if_pos ⟨hr, fun h => hmem ((HQ.out.2.2 sq).2 h)⟩])
                    have HM2 : Hid (q + 1 ≤ i + 1 ∧ ∀ k, (if k = sq then true else f k) = true ↔ k ∈ (acc ++ [((⟨sq, tm, lb, ln⟩ : Ent), Ax, cx)]).map (·.1.seq)) := hid (by
                      have := HQ.out
                      refine ⟨by omega, fun k => ?_⟩
                      rw [List.map_append, List.mem_append, List.map_singleton, List.mem_singleton, ← this.2.2 k]
                      by_cases hk : k = sq
                      · simp [hk]
                      · simp [hk])
                    have hql : q < maxLen := by have := HQ.out.2.1; have := HLT.out; have := HLEN.out; unfold maxLen; omega
                    obtain ⟨z, hzE, hz1⟩ : ∃ z ∈ E, z.1 = (⟨sq, tm, lb, ln⟩ : Ent) := by
                      have h1 := HSB.out (⟨sq, tm, lb, ln⟩, Ax, cx) (by rw [FIN.out]; simp)
                      have h2 := HGE.out.mem_iff.2 (List.mem_map.2 ⟨_, h1, rfl⟩)
                      obtain ⟨z, hz, e⟩ := List.mem_map.1 h2
                      exact ⟨z, hz, e⟩
                    obtain ⟨z1, zA, zc⟩ := z
                    simp only at hz1
                    subst hz1
                    have HZE := hid hzE
                    have hnN : n ≤ 4611686018427387904 := by have := HQ.out.1; have := HGL.out; have := HLT.out; omega
                    have HME := hid hmf
                    clear HTK hmem hr hmf hzE
                    go_upto_region 40 with (first
                      | (go_at_call 17; refine hRt.mono ?_; rintro e w5 ⟨rfl, b5⟩
                         have HB5 := hid (HW.out.trans (b5.mono HW.out.size))
                         obtain ⟨d0, d1, d2, d3⟩ := KX.out w5 HB5.out
                         have hm5 := HMM.out.1.touch (Tch.of_below (S := fun _ => False) b5) (fun h => h)
                         have lk := hm5.look sq HX1.out.2.1
                         rw [HME.out] at lk
                         have he5 := HMM.out.2.touch (Tch.of_below (S := fun _ => False) b5) (fun h => h)
                         obtain ⟨w6, hst, hm6, t6⟩ := hm5.store sq true HX1.out.2.1 hql
                         have HB6 := hid (Tch.below HB5.out t6 (fun j hj => by have := HLT9.out; omega) HB5.out.size)
                         have HE6 := hid (And.intro hm6 (he5.touch t6 (fun h => by have := HLT9.out; omega)))
                         clear hRt hm5 hm6 t6 he5)
                      | fail)
                    have KS := fun wx (h : Below w6.heap.size w6 wx) => ESame_refl ⟨sq, tm, lb, ln⟩ zA Ax zc cx wx ((HEL.out _ HZE.out).below (HB6.out.trans (h.mono HB6.out.size))) (HX1.out.2.2.below (HB6.out.trans (h.mono HB6.out.size))) (by have h9 : lb.length * 32 ≤ 140737488351232 := HX1.out.1.1; show lb.length ≤ _; omega)
                    unfold entV at KS
                    simp only at KS
                    have MK : Hid (∀ wx, Below w6.heap.size w6 wx → (fun wx => Below w6.heap.size w6 wx ∧ (wx.cell? ⟨b, off + i * 4, none⟩ = some (.int .i64 sq) ∧ wx.cell? ⟨b, off + i * 4 + 1, none⟩ = some (.int .i64 tm) ∧ wx.cell? ⟨b, off + i * 4 + 2, none⟩ = some (.slice Ax lb.length cx) ∧ wx.cell? ⟨b, off + i * 4 + 3, none⟩ = some (.string ⟨ln.toArray⟩)) ∧ (Instr.lookup 48 (.map (some w9.heap.size)) (.int .i64 sq) false).run Tryd.prog wx = .ok (.agg #[.int .i64 sq, .int .i64 tm, .slice zA lb.length zc, .string ⟨ln.toArray⟩]) wx) wx) := hid (fun wx h => ⟨h, KX.out wx (HB6.out.trans (h.mono HB6.out.size)), by
                      have h1 := (HE6.out.2.touch (Tch.of_below (S := fun _ => False) h) (fun h => h)).yes HZE.out HX1.out.2.1
                      unfold eV at h1
                      exact h1⟩)
                    refine wp_region_held_drew (S := fun wx => Below w6.heap.size w6 wx ∧ (wx.cell? ⟨b, off + i * 4, none⟩ = some (.int .i64 sq) ∧ wx.cell? ⟨b, off + i * 4 + 1, none⟩ = some (.int .i64 tm) ∧ wx.cell? ⟨b, off + i * 4 + 2, none⟩ = some (.slice Ax lb.length cx) ∧ wx.cell? ⟨b, off + i * 4 + 3, none⟩ = some (.string ⟨ln.toArray⟩)) ∧ (Instr.lookup 48 (.map (some w9.heap.size)) (.int .i64 sq) false).run Tryd.prog wx = .ok (.agg #[.int .i64 sq, .int .i64 tm, .slice zA lb.length zc, .string ⟨ln.toArray⟩]) wx) (by kernel_rfl) (MK.out _ (Below.refl _ _).drew) (fun hHeld => ?_)
                    refine takeAt (i := 0) (d := 225) (v := .map (some w9.heap.size)) rfl rfl (by kernel_rfl) (by kernel_rfl) (by kernel_rfl) (fun _ _ _ h => h) (Or.inl ⟨by rfl, fun wS hSw => by obtain ⟨-, ⟨s0, s1, s2, s3⟩, s4⟩ := hSw; go_simp; first | done | assumption | omega | (simp; omega)⟩) hHeld ?_
                    try simp only [List.setIfInBounds_toArray, List.set_cons_zero, List.set_cons_succ]
                    refine takeAt (i := 1) (d := 226) (v := .slice (some ⟨b, off, none⟩) X.length cv) rfl rfl (by kernel_rfl) (by kernel_rfl) (by kernel_rfl) (fun _ _ _ h => h) (Or.inl ⟨by rfl, fun wS hSw => by obtain ⟨-, ⟨s0, s1, s2, s3⟩, s4⟩ := hSw; go_simp; first | done | assumption | omega | (simp; omega)⟩) hHeld ?_
                    try simp only [List.setIfInBounds_toArray, List.set_cons_zero, List.set_cons_succ]
                    refine takeAt (i := 2) (d := 227) (v := .int .i64 (i : Int)) rfl rfl (by kernel_rfl) (by kernel_rfl) (by kernel_rfl) (fun _ _ _ h => h) (Or.inl ⟨by rfl, fun wS hSw => by obtain ⟨-, ⟨s0, s1, s2, s3⟩, s4⟩ := hSw; go_simp; first | done | assumption | omega | (simp; omega)⟩) hHeld ?_
                    try simp only [List.setIfInBounds_toArray, List.set_cons_zero, List.set_cons_succ]
                    refine takeAt (i := 3) (d := 228) (v := .pointer (some ⟨b, off + i * 4, none⟩)) rfl rfl (by kernel_rfl) (by kernel_rfl) (by kernel_rfl) (fun _ _ _ h => h) (Or.inl ⟨by rfl, fun wS hSw => by obtain ⟨-, ⟨s0, s1, s2, s3⟩, s4⟩ := hSw; go_simp; first | done | assumption | omega | (simp; omega)⟩) hHeld ?_
                    try simp only [List.setIfInBounds_toArray, List.set_cons_zero, List.set_cons_succ]
                    refine takeAt (i := 4) (d := 229) (v := .pointer (some ⟨b, off + i * 4, none⟩)) rfl rfl (by kernel_rfl) (by kernel_rfl) (by kernel_rfl) (fun _ _ _ h => h) (Or.inl ⟨by rfl, fun wS hSw => by obtain ⟨-, ⟨s0, s1, s2, s3⟩, s4⟩ := hSw; go_simp; first | done | assumption | omega | (simp; omega)⟩) hHeld ?_
                    try simp only [List.setIfInBounds_toArray, List.set_cons_zero, List.set_cons_succ]
                    refine takeAt (i := 5) (d := 230) (v := .int .i64 sq) rfl rfl (by kernel_rfl) (by kernel_rfl) (by kernel_rfl) (fun _ _ _ h => h) (Or.inl ⟨by rfl, fun wS hSw => by obtain ⟨-, ⟨s0, s1, s2, s3⟩, s4⟩ := hSw; go_simp; first | done | assumption | omega | (simp; omega)⟩) hHeld ?_
                    try simp only [List.setIfInBounds_toArray, List.set_cons_zero, List.set_cons_succ]
                    refine takeAt (i := 6) (d := 231) (v := .agg #[.int .i64 sq, .int .i64 tm, .slice zA lb.length zc, .string ⟨ln.toArray⟩]) rfl rfl (by kernel_rfl) (by kernel_rfl) (by kernel_rfl) (fun _ _ _ h => h) (Or.inl ⟨by rfl, fun wS hSw => by obtain ⟨-, ⟨s0, s1, s2, s3⟩, s4⟩ := hSw; go_simp; first | done | assumption | omega | (simp; omega)⟩) hHeld ?_
                    try simp only [List.setIfInBounds_toArray, List.set_cons_zero, List.set_cons_succ]
                    refine takeAt (i := 7) (d := 232) (v := .slice (some ⟨b, off, none⟩) X.length cv) rfl rfl (by kernel_rfl) (by kernel_rfl) (by kernel_rfl) (fun _ _ _ h => h) (Or.inl ⟨by rfl, fun wS hSw => by obtain ⟨-, ⟨s0, s1, s2, s3⟩, s4⟩ := hSw; go_simp; first | done | assumption | omega | (simp; omega)⟩) hHeld ?_
                    try simp only [List.setIfInBounds_toArray, List.set_cons_zero, List.set_cons_succ]
                    refine takeAt (i := 8) (d := 233) (v := .int .i64 (i : Int)) rfl rfl (by kernel_rfl) (by kernel_rfl) (by kernel_rfl) (fun _ _ _ h => h) (Or.inl ⟨by rfl, fun wS hSw => by obtain ⟨-, ⟨s0, s1, s2, s3⟩, s4⟩ := hSw; go_simp; first | done | assumption | omega | (simp; omega)⟩) hHeld ?_
                    try simp only [List.setIfInBounds_toArray, List.set_cons_zero, List.set_cons_succ]
                    refine takeAt (i := 9) (d := 234) (v := .pointer (some ⟨b, off + i * 4, none⟩)) rfl rfl (by kernel_rfl) (by kernel_rfl) (by kernel_rfl) (fun _ _ _ h => h) (Or.inl ⟨by rfl, fun wS hSw => by obtain ⟨-, ⟨s0, s1, s2, s3⟩, s4⟩ := hSw; go_simp; first | done | assumption | omega | (simp; omega)⟩) hHeld ?_
                    try simp only [List.setIfInBounds_toArray, List.set_cons_zero, List.set_cons_succ]
                    refine takeAt (i := 10) (d := 235) (v := .agg #[.int .i64 sq, .int .i64 tm, .slice Ax lb.length cx, .string ⟨ln.toArray⟩]) rfl rfl (by kernel_rfl) (by kernel_rfl) (by kernel_rfl) (fun _ _ _ h => h) (Or.inl ⟨by rfl, fun wS hSw => by obtain ⟨-, ⟨s0, s1, s2, s3⟩, s4⟩ := hSw; go_simp; first | done | assumption | omega | (simp; omega)⟩) hHeld ?_
                    try simp only [List.setIfInBounds_toArray, List.set_cons_zero, List.set_cons_succ]
                    refine wpAnyH_ready (rs := [11]) (by kernel_rfl) (by simp) ?_
                    refine AllReadyH.cons rfl (fun K hK => ?_) AllReadyH.nil
                    try rw [if_pos (by rfl)]
                    go_simp
                    go_at_call 18
                    refine (KS _ hHeld.1).mono ?_
                    rintro e w7 ⟨rfl, b7⟩
                    have b79 := hHeld.1.trans (b7.mono hHeld.1.size)
                    refine hK.out _ _ (MK.out _ b79) (fun hHeld => ?_)
                    clear hK K
                    try simp only [Act.put, List.setIfInBounds_toArray, List.set_cons_zero, List.set_cons_succ]
                    refine takeAt (i := 12) (d := 237) (v := .bool false) rfl rfl (by kernel_rfl) (by kernel_rfl) (by kernel_rfl) (fun _ _ _ h => h) (Or.inl ⟨by rfl, fun wS hSw => by obtain ⟨-, ⟨s0, s1, s2, s3⟩, s4⟩ := hSw; go_simp; first | done | assumption | omega | (simp; omega)⟩) hHeld ?_
                    try simp only [List.setIfInBounds_toArray, List.set_cons_zero, List.set_cons_succ]
                    refine wpAnyH_done (by kernel_rfl) ?_ _
                    have HB7' := hid b79
                    clear hHeld b79 b7 KS
                    go_wp2_with fail
                    go_roundw
                    case rel => exact ⟨i + 1, n + 1, q + 1, _, by go_num, by go_num, HLT.out, hid ⟨HE6.out.1.touch (Tch.of_below (S := fun _ => False) HB7'.out) (fun h => h), HE6.out.2.touch (Tch.of_below (S := fun _ => False) HB7'.out) (fun h => h)⟩, hid (by have := HM2.out; rw [FIN.out, List.length_append, List.length_singleton, HQ.out.1]; exact ⟨rfl, this⟩), hid (HB6.out.trans (HB7'.out.mono HB6.out.size))⟩
                    case measure => have := HLT.out; simp [intOf]; omega
                · have FIN : Hid (gdV (X.take (i + 1)) = acc) := hid (by
                    rw [HTK.out]
                    unfold gdStep
                    rw [if_neg (fun h => hr h.1)])
                  have hrf : entR ⟨sq, tm, lb, ln⟩ = false := by simpa using hr
                  rw [hrf] at hRt
                  clear HTK hr hrf
                  go_wp2_with (first
                    | (go_at_call 17; refine hRt.mono ?_; rintro e w5 ⟨rfl, b5⟩; have HB5 := hid (HW.out.trans (b5.mono HW.out.size)); clear hRt)
                    | fail)
                  go_roundw
                  case rel => exact ⟨i + 1, n, q, f, by go_num, rfl, HLT.out, hid ⟨HMM.out.1.touch (Tch.of_below (S := fun _ => False) b5) (fun h => h), HMM.out.2.touch (Tch.of_below (S := fun _ => False) b5) (fun h => h)⟩, hid (by have := HQ.out; rw [FIN.out]; exact ⟨this.1, by omega, this.2.2⟩), HB5⟩
                  case measure => have := HLT.out; simp [intOf]; omega
              · have hne3 : ¬ (i : Int) < (X.length : Int) := by omega
                have hEn : E.length = n := by
                  have h1 := HGE.out.length_eq
                  rw [List.length_map, List.length_map] at h1
                  rw [HQ.out.1, h1, List.take_of_length_le (by omega)]
                have hln := fun ty => HMM.out.2.len ty
                rw [hEn] at hln
                have hK := knows4_is wr (HF9.out.1.below HW.out)
                clear HQ hlt
                go_wp2_with (first
                  | (go_at_call 10; refine hK.mono ?_; rintro e w8 ⟨rfl, b8⟩; clear hK)
                  | fail)
                go_ret
                exact ⟨rfl, HF9.out.2.trans ((HW.out.trans (b8.mono HW.out.size)).mono HF9.out.2.size)⟩
  · have hff : chR labs rows = false := by simpa using hf
    rw [hff] at hRt
    have hm0 : m4 = [] := by
      have := HM4.out
      unfold splC at this
      rw [if_neg (fun h => hf h.2)] at this
      exact List.map_eq_nil_iff.1 this
    subst hm0
    clear hf hff
    go_wp2_with (first
      | (go_at_call 13; refine hRt.mono ?_; rintro e w5 ⟨rfl, b5⟩; have B5 := B4.out.trans (b5.mono B4.out.size); have hK := knows4_is w5 (FA.out w5 B5).2.2.2.1; clear hRt)
      | (go_at_call 10; refine hK.mono ?_; rintro e w6 ⟨rfl, b6⟩; have B6 := B5.trans (b6.mono B5.size); clear hK)
      | fail)
    go_ret
    exact ⟨rfl, (FA.out w6 B6).2.2.2.2.2⟩
end Go.Proofs.YtaoeabnpmpimgaaDoor
end
