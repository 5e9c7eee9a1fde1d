/-
  The mathematics of SimdiskAll: with all kept a crash changes nothing that can be read, and with nothing kept nothing the second time. Conditions: those that each theorem names.
-/
import Derived.Test.YtjpneohachkheaaSpu
namespace Go.Icz
open Go.RowKit
def tot (fs : List FM) : Nat := (fs.map fun f => f.ps.length).sum
/-- What holds behind k operations, none of which cut the power. -/
structure AllI (M : DM) (k : Nat) : Prop where
  off : M.off = false
  fuse : M.fuse = -1
  nm : M.names = M.ch.foldl nchange M.sure
  ct : M.ch.length + tot M.fs ≤ k
theorem ask_calm {M : DM} (h : M.fuse = -1) : ∃ a, (askM M).2.2 = { M with fault := a } := by
  unfold askM
  rw [if_neg (by omega)]
  have hf : (if 0 < M.fuse then M.fuse - 1 else M.fuse) = M.fuse := if_neg (by omega)
  simp only [hf]
  split
  · exact ⟨_, rfl⟩
  · split <;> exact ⟨_, rfl⟩
theorem AllI.up {M : DM} {k : Nat} (h : AllI M k) : AllI M (k + 1) := ⟨h.off, h.fuse, h.nm, Nat.le_succ_of_le h.ct⟩
theorem op_all {M : DM} {k : Nat} {ag : Int} {act : DM → DM} (h : AllI M k) (hA : ag = 0 → ∀ M, AllI M k → AllI (act M) (k + 1)) : AllI (opM M ag act).2 (k + 1) := by
  unfold opM
  split
  · exact h.up
  · split
    · exact h.up
    · rename_i h0
      obtain ⟨a, e⟩ := ask_calm h.fuse
      have hk : AllI (askM M).2.2 k := by rw [e]; exact ⟨h.off, h.fuse, h.nm, h.ct⟩
      simp only
      split
      · exact hA (by simpa using h0) _ hk
      · exact hk.up
theorem AllI.change {M : DM} {k : Nat} (h : AllI M k) (x : Ef) : AllI (changeM M x) (k + 1) :=
  ⟨h.off, h.fuse, by show nchange M.names x = (M.ch ++ [x]).foldl nchange M.sure; rw [List.foldl_append, ← h.nm]; rfl, by have := h.ct; show (M.ch ++ [x]).length + tot M.fs ≤ _; rw [List.length_append, List.length_singleton]; omega⟩
theorem tot_set : ∀ (fs : List FM) (i : Nat) (f : FM), tot (fs.set i f) + (fileAt fs i).ps.length ≤ tot fs + f.ps.length
  | [], i, f => by simp [tot, fileAt, f0]
  | g :: r, 0, f => by
    unfold tot fileAt
    simp
    omega
  | g :: r, i + 1, f => by
    have := tot_set r i f
    unfold tot fileAt at this ⊢
    simp at this ⊢
    omega
theorem tot_set_eq : ∀ (fs : List FM) (i : Nat) (f : FM), i < fs.length → tot (fs.set i f) + (fileAt fs i).ps.length = tot fs + f.ps.length
  | [], i, f, h => absurd h (by simp)
  | g :: r, 0, f, _ => by
    unfold tot fileAt
    simp
    omega
  | g :: r, i + 1, f, h => by
    have := tot_set_eq r i f (by simpa using h)
    unfold tot fileAt at this ⊢
    simp at this ⊢
    omega
theorem AllI.do {M : DM} {k : Nat} (h : AllI M k) (kd : Int) (nm to : ByteArray) (l : List Nat) (n : Int) (y : Bool) (hkd : kd ≠ 7) : AllI (doM kd nm to l n y M) (k + 1) := by
  unfold doM
  split
  · refine op_all h (fun _ M hM => ?_)
    have h2 : AllI { M with fs := M.fs ++ [f0] } k := ⟨hM.off, hM.fuse, hM.nm, by have := hM.ct; show M.ch.length + tot (M.fs ++ [f0]) ≤ k; unfold tot at *; simp [f0]; omega⟩
    exact h2.change _
  split
  · refine op_all h (fun _ M hM => ?_)
    unfold actMore
    split
    · exact hM.up
    · rename_i i hi
      refine ⟨hM.off, hM.fuse, hM.nm, ?_⟩
      have h1 := tot_set M.fs i (extF (fileAt M.fs i) l)
      have h2 : (extF (fileAt M.fs i) l).ps.length ≤ (fileAt M.fs i).ps.length + 1 := by unfold extF; split <;> simp
      have := hM.ct
      show M.ch.length + tot (M.fs.set i _) ≤ k + 1
      omega
  split
  · refine op_all h (fun _ M hM => ?_)
    unfold actRename
    split
    · exact hM.up
    · exact hM.change _
  split
  · exact op_all h (fun _ M hM => hM.change _)
  split
  · refine op_all h (fun _ M hM => ?_)
    unfold actSync
    split
    · exact hM.up
    · rename_i i hi
      refine ⟨hM.off, hM.fuse, hM.nm, ?_⟩
      have h1 := tot_set M.fs i (synF (fileAt M.fs i))
      have h2 : (synF (fileAt M.fs i)).ps.length = 0 := rfl
      have := hM.ct
      show M.ch.length + tot (M.fs.set i _) ≤ k + 1
      omega
  split
  · exact op_all h (fun _ M hM => ⟨hM.off, hM.fuse, rfl, by have := hM.ct; show 0 + tot M.fs ≤ _; omega⟩)
  split
  · exact ⟨h.off, h.fuse, h.nm, Nat.le_succ_of_le h.ct⟩
  exact h.up
def Calm (f : FM) : Prop := f.s = f.b.length ∧ f.ps = []
theorem rep_step (m : Nat) : (List.replicate (m + 1) true).headD false = true ∧ (List.replicate (m + 1) true).tail = List.replicate m true := ⟨rfl, rfl⟩
theorem cgo_all : ∀ (ps : List Nat) (a : Nat) (b : List Nat) (m : Nat), ps.length ≤ m → cgo ps a a b (List.replicate m true) = (b, a + ps.sum, List.replicate (m - ps.length) true)
  | [], a, b, m, _ => by simp [cgo]
  | n :: ps, a, b, m + 1, h => by
    rw [cgo_step, (rep_step m).1, (rep_step m).2, if_pos rfl, cgo_all ps (a + n) b m (by simpa using h), List.sum_cons, List.length_cons]
    simp
    omega
theorem fcr_all {f : FM} (hf : FwOk f) (m : Nat) (h : f.ps.length ≤ m) : fcr f (List.replicate m true) = (⟨f.b, f.b.length, []⟩, List.replicate (m - f.ps.length) true) := by
  unfold fcr
  rw [cgo_all f.ps f.s f.b m h]
  simp only
  rw [hf.1, List.take_length]
theorem fcr_calm {f : FM} (h : Calm f) (k : List Bool) : fcr f k = (f, k) := by
  obtain ⟨b, s, ps⟩ := f
  obtain ⟨h1, h2⟩ := h
  simp only at h1 h2
  subst h1 h2
  unfold fcr
  show ((⟨b.take b.length, b.length, []⟩ : FM), k) = _
  rw [List.take_length]
theorem fileAt_ps {fs : List FM} {i : Nat} (h : i < fs.length) : (fileAt fs i).ps.length ≤ tot fs := by
  have := tot_set_eq fs i f0 h
  have : f0.ps.length = 0 := rfl
  omega
theorem set_at {fs : List FM} {i : Nat} (h : i < fs.length) (f : FM) (j : Nat) : fileAt (fs.set i f) j = if j = i then f else fileAt fs j := by
  split
  · rename_i e
    rw [e]
    exact fileAt_same h f
  · rename_i e
    exact fileAt_set (Ne.symm e) f
/-- With all kept. -/
theorem fgo_all : ∀ (ix : List Nat) (fs : List FM) (m : Nat), (∀ i ∈ ix, i < fs.length) → (∀ i, FwOk (fileAt fs i)) → tot fs ≤ m → (∀ j, (fileAt (fgo ix fs (List.replicate m true)) j).b = (fileAt fs j).b) ∧ (∀ j, Calm (fileAt fs j) ∨ j ∈ ix → Calm (fileAt (fgo ix fs (List.replicate m true)) j))
  | [], fs, m, _, _, _ => ⟨fun _ => rfl, fun j h => h.elim id (fun h => by cases h)⟩
  | i :: r, fs, m, hi, hf, ht => by
    have hil := hi i (List.mem_cons_self ..)
    have hp := fileAt_ps hil
    rw [fgo_step, fcr_all (hf i) m (by omega)]
    simp only
    have hte := tot_set_eq fs i ⟨(fileAt fs i).b, (fileAt fs i).b.length, []⟩ hil
    have hz : (⟨(fileAt fs i).b, (fileAt fs i).b.length, []⟩ : FM).ps.length = 0 := rfl
    obtain ⟨h1, h2⟩ := fgo_all r (fs.set i ⟨(fileAt fs i).b, (fileAt fs i).b.length, []⟩) (m - (fileAt fs i).ps.length) (fun j hj => by rw [List.length_set]; exact hi j (List.mem_cons_of_mem _ hj)) (fun j => by
      rw [set_at hil]
      split
      · exact ⟨by simp, (hf i).2.1, by simp⟩
      · exact hf j) (by omega)
    refine ⟨fun j => ?_, fun j hj => h2 j ?_⟩
    · rw [h1 j, set_at hil]
      split
      · rename_i e; rw [e]
      · rfl
    · rw [set_at hil]
      by_cases e : j = i
      · rw [if_pos e]
        exact .inl ⟨rfl, rfl⟩
      · rw [if_neg e]
        rcases hj with hj | hj
        · exact .inl hj
        · rcases List.mem_cons.1 hj with hj | hj
          · exact absurd hj e
          · exact .inr hj
/-- With what is sure already. -/
theorem fgo_calm : ∀ (ix : List Nat) (fs : List FM) (k : List Bool), (∀ i ∈ ix, i < fs.length ∧ Calm (fileAt fs i)) → ∀ j, fileAt (fgo ix fs k) j = fileAt fs j
  | [], fs, k, _, j => rfl
  | i :: r, fs, k, h, j => by
    obtain ⟨hil, hc⟩ := h i (List.mem_cons_self ..)
    rw [fgo_step, fcr_calm hc k]
    simp only
    have e : ∀ j, fileAt (fs.set i (fileAt fs i)) j = fileAt fs j := fun j => by
      rw [set_at hil]
      split
      · rename_i e; rw [e]
      · rfl
    rw [fgo_calm r _ k (fun n hn => by
      rw [List.length_set, e]
      exact h n (List.mem_cons_of_mem _ hn)) j, e]
theorem chgo_all : ∀ (l : List Ef) (N : NM) (m : Nat), l.length ≤ m → chgo l N (List.replicate m true) = (l.foldl nchange N, List.replicate (m - l.length) true)
  | [], N, m, _ => by simp [chgo]
  | x :: r, N, m + 1, h => by
    rw [chgo_step, (rep_step m).1, (rep_step m).2, if_pos rfl, chgo_all r _ m (by simpa using h), List.foldl_cons, List.length_cons]
    simp
/-- A disk of which all is sure. -/
structure Still (M : DM) : Prop where
  off : M.off = false
  sn : M.sure = M.names
  ch : M.ch = []
  fs : ∀ e ∈ M.names, e.2 < M.fs.length ∧ Calm (fileAt M.fs e.2)
theorem fgo_len : ∀ (ix : List Nat) (fs : List FM) (k : List Bool), (fgo ix fs k).length = fs.length
  | [], _, _ => rfl
  | i :: r, fs, k => by rw [fgo_step, fgo_len, List.length_set]
theorem idx_mem {N : NM} {i : Nat} (h : i ∈ idx N (rising N)) : ∃ e ∈ N, e.2 = i := by
  unfold idx at h
  obtain ⟨s, hs, rfl⟩ := List.mem_map.1 h
  have : (nlook N ⟨s.toArray⟩).isSome = true := by
    rw [look_isSome]
    unfold rising at hs
    rw [List.mem_mergeSort] at hs
    obtain ⟨e, he, rfl⟩ := List.mem_map.1 hs
    exact List.mem_map.2 ⟨e, he, by simp⟩
  obtain ⟨i, hi⟩ := Option.isSome_iff_exists.1 this
  rw [hi]
  exact ⟨_, look_mem hi, rfl⟩
theorem mem_idx {N : NM} (hn : (nkeys N).Nodup) {e : ByteArray × Nat} (h : e ∈ N) : e.2 ∈ idx N (rising N) := by
  unfold idx
  refine List.mem_map.2 ⟨e.1.data.toList, ?_, ?_⟩
  · unfold rising
    rw [List.mem_mergeSort]
    exact List.mem_map.2 ⟨e, h, rfl⟩
  · have : (⟨e.1.data.toList.toArray⟩ : ByteArray) = e.1 := by simp
    rw [this, look_of_mem hn h]
    rfl
/-- They answer the same. -/
def SameR (M M' : DM) : Prop := M'.names = M.names ∧ ∀ k, (nlook M.names k).isSome = true → readM M' k = readM M k
theorem SameR.trans {A B C : DM} (h : SameR A B) (k : SameR B C) : SameR A C := ⟨k.1.trans h.1, fun key hk => (k.2 key (by rw [h.1]; exact hk)).trans (h.2 key hk)⟩
theorem SameR.list {A B : DM} (h : SameR A B) : listM B = listM A := by unfold listM; rw [h.1]
theorem all_crash {M : DM} {k c : Nat} (h : AllI M k) (hk : k ≤ 1000) (wf : WfM M c) : SameR M (crashM M (List.replicate 1000 true)) ∧ Still (crashM M (List.replicate 1000 true)) := by
  have hct := h.ct
  have hc := chgo_all M.ch M.sure 1000 (by omega)
  rw [← h.nm] at hc
  have hFw : ∀ i, FwOk (fileAt M.fs i) := fun i => by
    unfold fileAt
    rw [List.getD_eq_getElem?_getD]
    cases hx : M.fs[i]? with
    | none => exact ⟨rfl, by simp [f0], by simp [f0]⟩
    | some x => exact wf.fw x (List.mem_of_getElem? hx)
  obtain ⟨g1, g2⟩ := fgo_all (idx M.names (rising M.names)) M.fs (1000 - M.ch.length) (fun i hi => by
    obtain ⟨e, he, rfl⟩ := idx_mem hi
    exact wf.ni e he) hFw (by omega)
  have hcr : crashM M (List.replicate 1000 true) = { off := false, fuse := -1, fault := 0, done := false, quota := M.quota, fs := fgo (idx M.names (rising M.names)) M.fs (List.replicate (1000 - M.ch.length) true), names := M.names, sure := M.names, ch := [] } := by
    unfold crashM
    rw [hc]
  rw [hcr]
  refine ⟨⟨rfl, fun key hkey => ?_⟩, ⟨rfl, rfl, rfl, fun e he => ⟨?_, ?_⟩⟩⟩
  · unfold readM
    rw [h.off, if_neg (by simp), if_neg (by simp)]
    cases hl : nlook M.names key with
    | none => rfl
    | some i =>
      simp only
      rw [g1 i]
  · show e.2 < (fgo _ M.fs _).length
    rw [fgo_len]
    exact wf.ni e he
  · exact g2 e.2 (.inr (mem_idx wf.nn he))
theorem still_crash {M : DM} (h : Still M) (k : List Bool) : SameR M (crashM M k) ∧ Still (crashM M k) := by
  have hcr : crashM M k = { off := false, fuse := -1, fault := 0, done := false, quota := M.quota, fs := fgo (idx M.names (rising M.names)) M.fs k, names := M.names, sure := M.names, ch := [] } := by
    unfold crashM
    rw [h.ch, h.sn]
    rfl
  have hf := fgo_calm (idx M.names (rising M.names)) M.fs k (fun i hi => by
    obtain ⟨e, he, rfl⟩ := idx_mem hi
    exact h.fs e he)
  rw [hcr]
  refine ⟨⟨rfl, fun key hkey => ?_⟩, ⟨rfl, rfl, rfl, fun e he => ⟨?_, ?_⟩⟩⟩
  · unfold readM
    rw [h.off, if_neg (by simp), if_neg (by simp)]
    cases hl : nlook M.names key with
    | none => rfl
    | some i =>
      simp only
      rw [hf i]
  · show e.2 < (fgo _ M.fs _).length
    rw [fgo_len]
    exact (h.fs e he).1
  · show Calm (fileAt (fgo _ M.fs _) e.2)
    rw [hf e.2]
    exact (h.fs e he).2
theorem newM_all (q : Nat) : AllI (newM q) 0 := ⟨rfl, rfl, rfl, Nat.le_refl _⟩
end Go.Icz
