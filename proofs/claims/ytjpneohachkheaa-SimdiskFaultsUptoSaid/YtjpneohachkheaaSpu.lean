/-
  The mathematics of SimdiskSure: what is sure, and not touched, stays behind any crash. Conditions: those that each theorem names.
-/
import Derived.Test.YtjpneohachkheaaSmd
namespace Go.Icz
open Go.RowKit
/-- An operation on a disk, as the law does it. -/
def doM (kd : Int) (nm to : ByteArray) (b : List Nat) (n : Int) (y : Bool) (M : DM) : DM :=
  if kd = 0 then (createM M nm).2 else if kd = 1 then (appendM M nm b).2 else if kd = 2 then (renameM M nm to).2 else if kd = 3 then (removeM M nm).2
  else if kd = 4 then (syncM M nm).2 else if kd = 5 then (dirM M).2 else if kd = 6 then failM M n y else if kd = 7 then cutM M n else M
def kS : ByteArray := ⟨#[115, 117, 114, 101]⟩
/-- The switches do not matter. -/
theorem ask_kept (M : DM) : ∃ o f a, (askM M).2.2 = { M with off := o, fuse := f, fault := a } := by
  unfold askM
  split
  · exact ⟨true, M.fuse, M.fault, rfl⟩
  · simp only
    split
    · exact ⟨_, _, _, rfl⟩
    · split <;> exact ⟨_, _, _, rfl⟩
/-- What holds of a disk's files and names, whatever its switches say, holds behind an operation whose deed keeps it. -/
theorem op_keeps (I : DM → Prop) (hI : ∀ M o f a, I M → I { M with off := o, fuse := f, fault := a }) {M : DM} {ag : Int} {act : DM → DM} (hA : ag = 0 → ∀ M, I M → I (act M)) (h : I M) : I (opM M ag act).2 := by
  unfold opM
  split
  · exact h
  · split
    · exact h
    · rename_i h0
      obtain ⟨o, f, a, e⟩ := ask_kept M
      have hk : I (askM M).2.2 := by rw [e]; exact hI M o f a h
      simp only
      split
      · exact hA (by simpa using h0) _ hk
      · exact hk
def chFar : Ef → Prop
  | .create k i => k ≠ kS ∧ i ≠ 0
  | .rename a b => a ≠ kS ∧ b ≠ kS
  | .remove k => k ≠ kS
structure SureI (b : List Nat) (M : DM) : Prop where
  nm : nlook M.names kS = some 0
  nf : ∀ k i, k ≠ kS → nlook M.names k = some i → i ≠ 0
  sn : nlook M.sure kS = some 0
  ch : ∀ x ∈ M.ch, chFar x
  fs : 0 < M.fs.length ∧ fileAt M.fs 0 = ⟨b, b.length, []⟩
theorem change_far {N : NM} {x : Ef} (hx : chFar x) (hs : nlook N kS = some 0) : nlook (nchange N x) kS = some 0 := by
  cases x with
  | create k i => show nlook (nput N k i) kS = _; rw [look_put_other (Ne.symm hx.1)]; exact hs
  | rename a c =>
    show nlook (nren N a c) kS = _
    cases hl : nlook N a with
    | none => rw [ren_none hl]; exact hs
    | some i => rw [ren_some hl, look_put_other (Ne.symm hx.2), look_del_other (Ne.symm hx.1)]; exact hs
  | remove k => show nlook (ndel k N) kS = _; rw [look_del_other (Ne.symm hx)]; exact hs
theorem change_nf {N : NM} {x : Ef} (hx : chFar x) (hn : ∀ k i, k ≠ kS → nlook N k = some i → i ≠ 0) : ∀ k i, k ≠ kS → nlook (nchange N x) k = some i → i ≠ 0 := by
  have hput : ∀ {N : NM} {j : ByteArray} {m : Nat}, (∀ k i, k ≠ kS → nlook N k = some i → i ≠ 0) → m ≠ 0 → ∀ k i, k ≠ kS → nlook (nput N j m) k = some i → i ≠ 0 := by
    intro N j m h hm k i hk hl
    by_cases e : k = j
    · subst e
      rw [look_put_same] at hl
      injection hl with hl
      rw [← hl]
      exact hm
    · rw [look_put_other e] at hl
      exact h k i hk hl
  have hdel : ∀ {N : NM} {j : ByteArray}, (∀ k i, k ≠ kS → nlook N k = some i → i ≠ 0) → ∀ k i, k ≠ kS → nlook (ndel j N) k = some i → i ≠ 0 := by
    intro N j h k i hk hl
    by_cases e : k = j
    · subst e
      rw [look_del_same] at hl
      cases hl
    · rw [look_del_other e] at hl
      exact h k i hk hl
  cases x with
  | create k i => exact hput hn hx.2
  | rename a c =>
    show ∀ k i, k ≠ kS → nlook (nren N a c) k = some i → i ≠ 0
    cases hl : nlook N a with
    | none => rw [ren_none hl]; exact hn
    | some i => rw [ren_some hl]; exact hput (hdel hn) (hn a i hx.1 hl)
  | remove k => exact hdel hn
theorem SureI.sw {b : List Nat} {M : DM} (h : SureI b M) (o : Bool) (f a : Int) : SureI b { M with off := o, fuse := f, fault := a } := ⟨h.nm, h.nf, h.sn, h.ch, h.fs⟩
theorem SureI.change {b : List Nat} {M : DM} (h : SureI b M) {x : Ef} (hx : chFar x) : SureI b (changeM M x) :=
  ⟨change_far hx h.nm, change_nf hx h.nf, h.sn, fun y hy => by
    rcases List.mem_append.1 hy with hy | hy
    · exact h.ch y hy
    · rw [List.mem_singleton.1 hy]; exact hx, h.fs⟩
theorem fileAt_set {fs : List FM} {i j : Nat} (h : i ≠ j) (f : FM) : fileAt (fs.set i f) j = fileAt fs j := by
  unfold fileAt
  rw [List.getD_eq_getElem?_getD, List.getD_eq_getElem?_getD, List.getElem?_set_ne h]
theorem fileAt_same {fs : List FM} {i : Nat} (h : i < fs.length) (f : FM) : fileAt (fs.set i f) i = f := by
  unfold fileAt
  rw [List.getD_eq_getElem?_getD, List.getElem?_set_self h]
  rfl
theorem SureI.setF {b : List Nat} {M : DM} (h : SureI b M) {i : Nat} (hi : i ≠ 0) (f : FM) : SureI b (setF M i f) :=
  ⟨h.nm, h.nf, h.sn, h.ch, by show 0 < (M.fs.set i f).length; rw [List.length_set]; exact h.fs.1, by show fileAt (M.fs.set i f) 0 = _; rw [fileAt_set hi]; exact h.fs.2⟩
theorem SureI.do {b : List Nat} {M : DM} (h : SureI b M) (kd : Int) (nm to : ByteArray) (l : List Nat) (n : Int) (y : Bool) (hn : nm ≠ kS) (ht : to ≠ kS) : SureI b (doM kd nm to l n y M) := by
  have hsw : ∀ M o f a, SureI b M → SureI b { M with off := o, fuse := f, fault := a } := fun M o f a h => h.sw o f a
  unfold doM
  split
  · refine op_keeps (SureI b) hsw (fun _ M hM => ?_) h
    have h2 : SureI b { M with fs := M.fs ++ [f0] } := ⟨hM.nm, hM.nf, hM.sn, hM.ch, by show 0 < (M.fs ++ [f0]).length; rw [List.length_append]; have := hM.fs.1; omega, by
      have := hM.fs.2
      unfold fileAt at this ⊢
      rw [List.getD_eq_getElem?_getD] at this ⊢
      show ((M.fs ++ [f0])[0]?).getD f0 = _
      rw [List.getElem?_append_left hM.fs.1]
      exact this⟩
    exact h2.change (x := .create nm M.fs.length) ⟨hn, by have := hM.fs.1; omega⟩
  split
  · refine op_keeps (SureI b) hsw (fun _ M hM => ?_) h
    unfold actMore
    split
    · exact hM
    · rename_i i hi
      exact hM.setF (hM.nf nm i hn hi) _
  split
  · refine op_keeps (SureI b) hsw (fun _ M hM => ?_) h
    unfold actRename
    split
    · exact hM
    · exact hM.change ⟨hn, ht⟩
  split
  · exact op_keeps (SureI b) hsw (fun _ M hM => hM.change hn) h
  split
  · refine op_keeps (SureI b) hsw (fun _ M hM => ?_) h
    unfold actSync
    split
    · exact hM
    · rename_i i hi
      exact hM.setF (hM.nf nm i hn hi) _
  split
  · exact op_keeps (SureI b) hsw (fun _ M hM => ⟨hM.nm, hM.nf, hM.nm, fun x hx => absurd hx (by simp [actDir]), hM.fs⟩) h
  split
  · exact ⟨h.nm, h.nf, h.sn, h.ch, h.fs⟩
  split
  · exact ⟨h.nm, h.nf, h.sn, h.ch, h.fs⟩
  · exact h
theorem chgo_far : ∀ (l : List Ef) (N : NM) (k : List Bool), (∀ x ∈ l, chFar x) → nlook N kS = some 0 → nlook (chgo l N k).1 kS = some 0
  | [], N, k, _, h => h
  | x :: r, N, k, hl, h => by
    rw [chgo_step]
    refine chgo_far r _ _ (fun y hy => hl y (List.mem_cons_of_mem _ hy)) ?_
    split
    · exact change_far (hl x (List.mem_cons_self ..)) h
    · exact h
theorem fcr_sure (b : List Nat) (k : List Bool) : (fcr ⟨b, b.length, []⟩ k).1 = ⟨b, b.length, []⟩ := by
  unfold fcr
  show (⟨b.take b.length, b.length, []⟩ : FM) = _
  rw [List.take_length]
theorem fgo_sure (b : List Nat) : ∀ (ix : List Nat) (fs : List FM) (k : List Bool), 0 < fs.length → fileAt fs 0 = ⟨b, b.length, []⟩ → fileAt (fgo ix fs k) 0 = ⟨b, b.length, []⟩
  | [], fs, k, _, h => h
  | i :: r, fs, k, hl, h => by
    rw [fgo_step]
    refine fgo_sure b r _ _ (by rw [List.length_set]; exact hl) ?_
    by_cases e : i = 0
    · subst e
      rw [fileAt_same hl, h]
      exact fcr_sure b k
    · rw [fileAt_set e]
      exact h
theorem SureI.crash {b : List Nat} {M : DM} (h : SureI b M) (k : List Bool) : readM (crashM M k) kS = (b, 0) ∧ (crashM M k).off = false := by
  refine ⟨?_, rfl⟩
  unfold readM
  rw [if_neg (by show ¬ false = true; simp)]
  have h1 : nlook (crashM M k).names kS = some 0 := chgo_far M.ch M.sure k h.ch h.sn
  rw [h1]
  simp only
  have h2 : fileAt (crashM M k).fs 0 = ⟨b, b.length, []⟩ := fgo_sure b _ M.fs _ h.fs.1 h.fs.2
  rw [h2]
/-- The beginning. -/
def g1 : DM := ⟨false, -1, 0, false, 1048576, [f0], [(kS, 0)], [], [.create kS 0]⟩
def g2 (b : List Nat) : DM := ⟨false, -1, 0, false, 1048576, [⟨b, 0, if b.length = 0 then [] else [b.length]⟩], [(kS, 0)], [], [.create kS 0]⟩
def g3 (b : List Nat) : DM := ⟨false, -1, 0, false, 1048576, [⟨b, b.length, []⟩], [(kS, 0)], [], [.create kS 0]⟩
def g4 (b : List Nat) : DM := ⟨false, -1, 0, false, 1048576, [⟨b, b.length, []⟩], [(kS, 0)], [(kS, 0)], []⟩
theorem rightS : rightB kS = true := by decide
theorem lookS : nlook [(kS, 0)] kS = some 0 := by simp [nlook]
theorem gstep1 : createM (newM 1048576) kS = (0, g1) := by
  have h : agCreate (newM 1048576) kS = 0 := by unfold agCreate; rw [rightS]; rfl
  unfold createM
  rw [h]
  rfl
theorem gstep2 (b : List Nat) (hb : b.length ≤ 1000) : appendM g1 kS b = (0, g2 b) := by
  have h : agMore g1 kS b.length = 0 := by
    unfold agMore
    rw [show g1.names = [(kS, 0)] from rfl, lookS, if_neg (by simp), if_neg (by
      show ¬ (1048576 < used [f0] [(kS, 0)] + b.length)
      simp [used, fileAt, f0]
      omega)]
  unfold appendM
  rw [h]
  unfold opM
  by_cases h0 : b.length = 0
  · have hb0 : b = [] := List.eq_nil_of_length_eq_zero h0
    subst hb0
    simp [g1, g2, askM, actMore, lookS, setF, extF, fileAt, f0]
  · simp [g1, g2, askM, actMore, lookS, setF, extF, fileAt, f0, h0]
theorem gstep3 (b : List Nat) : syncM (g2 b) kS = (0, g3 b) := by
  have h : agThere (g2 b) kS = 0 := by unfold agThere; rw [show (g2 b).names = [(kS, 0)] from rfl, lookS]; rfl
  unfold syncM
  rw [h]
  unfold opM
  simp [g2, g3, askM, actSync, lookS, setF, synF, fileAt]
theorem gstep4 (b : List Nat) : dirM (g3 b) = (0, g4 b) := by
  unfold dirM opM
  simp [g3, g4, askM, actDir]
theorem g4_sure (b : List Nat) : SureI b (g4 b) := by
  refine ⟨lookS, fun k i hk hl => ?_, lookS, fun x hx => absurd hx (by simp [g4]), by simp [g4], by simp [g4, fileAt]⟩
  have := look_mem hl
  have h := List.mem_singleton.1 this
  exact absurd (congrArg Prod.fst h) hk
end Go.Icz
