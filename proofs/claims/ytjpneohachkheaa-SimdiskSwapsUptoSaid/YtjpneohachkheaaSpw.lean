/-
  The mathematics of SimdiskSwaps: a file that is written beside, synced and renamed onto another one. Conditions: those that each theorem names.
-/
import Derived.Test.YtjpneohachkheaaSpa
namespace Go.Icz
open Go.RowKit
def kI : ByteArray := ⟨#[105, 116]⟩
def kT : ByteArray := ⟨#[116, 109, 112]⟩
def nA (i : Nat) : NM := [(kI, i)]
def nB (i j : Nat) : NM := [(kI, i), (kT, j)]
def calmF (b : List Nat) : FM := ⟨b, b.length, []⟩
theorem kTI : ¬ kT = kI := by decide
theorem kIT : ¬ kI = kT := by decide
theorem look_AI (i : Nat) : nlook (nA i) kI = some i := by simp [nlook, nA]
theorem look_AT (i : Nat) : nlook (nA i) kT = none := by simp [nlook, nA, kIT]
theorem look_BI (i j : Nat) : nlook (nB i j) kI = some i := by simp [nlook, nB]
theorem look_BT (i j : Nat) : nlook (nB i j) kT = some j := by simp [nlook, nB, kIT]
theorem put_A (i k : Nat) : nput (nA i) kT k = nB i k := by simp [nput, ndel, nA, nB, kIT]
theorem del_B (i j : Nat) : ndel kT (nB i j) = nA i := by simp [ndel, nA, nB, kIT]
theorem del_A (i : Nat) : ndel kI (nA i) = [] := by simp [ndel, nA]
theorem ren_A (i : Nat) : nren (nA i) kT kI = nA i := ren_none (look_AT i) _
theorem ren_B (i j : Nat) : nren (nB i j) kT kI = nA j := by
  rw [ren_some (look_BT i j), del_B]
  unfold nput
  rw [del_A]
  rfl
theorem fcr_cf (b : List Nat) (k : List Bool) : (fcr (calmF b) k).1 = calmF b := fcr_sure b k
theorem fgo_cf (b : List Nat) (i : Nat) : ∀ (ix : List Nat) (fs : List FM) (k : List Bool), i < fs.length → fileAt fs i = calmF b → fileAt (fgo ix fs k) i = calmF b
  | [], fs, k, _, h => h
  | j :: r, fs, k, hl, h => by
    unfold fgo
    refine fgo_cf b i r _ _ (by rw [List.length_set]; exact hl) ?_
    by_cases e : j = i
    · subst e
      rw [fileAt_same hl, h]
      exact fcr_cf b k
    · rw [fileAt_set e]
      exact h
/-- What lies between two rounds. -/
structure Setl (b : List Nat) (M : DM) : Prop where
  off : M.off = false
  fuse : M.fuse = -1
  fault : M.fault = 0
  qu : M.quota = 1048576
  nm : M.names = M.sure
  ch : M.ch = []
  ex : ∃ i, i < M.fs.length ∧ fileAt M.fs i = calmF b ∧ (M.sure = nA i ∨ ∃ j, j ≠ i ∧ M.sure = nB i j)
/-- What any crash leaves right: the old bytes or the new ones. -/
def Good (a b : List Nat) (M : DM) : Prop :=
  M.quota = 1048576 ∧ ∃ i, i < M.fs.length ∧ fileAt M.fs i = calmF a ∧
    ((M.ch = [] ∧ (M.sure = nA i ∨ ∃ j, j ≠ i ∧ M.sure = nB i j)) ∨
     (M.ch = [.remove kT] ∧ ∃ j, j ≠ i ∧ M.sure = nB i j) ∨
     (∃ k, k ≠ i ∧ k < M.fs.length ∧ M.sure = nA i ∧ (M.ch = [.create kT k] ∨ (M.ch = [.create kT k, .rename kT kI] ∧ fileAt M.fs k = calmF b))))
theorem setl_of {b : List Nat} {M : DM} {k : List Bool} {N : NM} {k' : List Bool} {i : Nat} (hc : chgo M.ch M.sure k = (N, k')) (hq : M.quota = 1048576) (hi : i < M.fs.length) (hf : fileAt M.fs i = calmF b) (hN : N = nA i ∨ ∃ j, j ≠ i ∧ N = nB i j) : Setl b (crashM M k) := by
  unfold crashM
  rw [hc]
  exact ⟨rfl, rfl, rfl, hq, rfl, rfl, i, by show i < (fgo _ _ _).length; rw [fgo_len]; exact hi, fgo_cf b i _ _ _ hi hf, hN⟩
theorem good_crash {a b : List Nat} {M : DM} (h : Good a b M) (k : List Bool) : Setl a (crashM M k) ∨ Setl b (crashM M k) := by
  obtain ⟨hq, i, hi, hf, h | h | h⟩ := h
  · obtain ⟨hc, h⟩ := h
    exact .inl (setl_of (k' := k) (by rw [hc]; rfl) hq hi hf h)
  · obtain ⟨hc, j, hj, hs⟩ := h
    refine .inl ?_
    by_cases e : k.headD false = true
    · refine setl_of (N := nA i) (k' := k.tail) ?_ hq hi hf (.inl rfl)
      rw [hc, hs, chgo_step, if_pos e]
      show (ndel kT (nB i j), k.tail) = _
      rw [del_B]
    · refine setl_of (N := nB i j) (k' := k.tail) ?_ hq hi hf (.inr ⟨j, hj, rfl⟩)
      rw [hc, hs, chgo_step, if_neg e]
      rfl
  · obtain ⟨n, hn, hl, hs, hc | ⟨hc, hfn⟩⟩ := h
    · refine .inl ?_
      by_cases e : k.headD false = true
      · refine setl_of (N := nB i n) (k' := k.tail) ?_ hq hi hf (.inr ⟨n, hn, rfl⟩)
        rw [hc, hs, chgo_step, if_pos e]
        show (nput (nA i) kT n, k.tail) = _
        rw [put_A]
      · refine setl_of (N := nA i) (k' := k.tail) ?_ hq hi hf (.inl rfl)
        rw [hc, hs, chgo_step, if_neg e]
        rfl
    · by_cases e : k.headD false = true
      · by_cases e2 : k.tail.headD false = true
        · refine .inr (setl_of (N := nA n) (k' := k.tail.tail) ?_ hq hl hfn (.inl rfl))
          rw [hc, hs, chgo_step, if_pos e, chgo_step, if_pos e2]
          show (nren (nput (nA i) kT n) kT kI, k.tail.tail) = _
          rw [put_A, ren_B]
        · refine .inl (setl_of (N := nB i n) (k' := k.tail.tail) ?_ hq hi hf (.inr ⟨n, hn, rfl⟩))
          rw [hc, hs, chgo_step, if_pos e, chgo_step, if_neg e2]
          show (nput (nA i) kT n, k.tail.tail) = _
          rw [put_A]
      · by_cases e2 : k.tail.headD false = true
        · refine .inl (setl_of (N := nA i) (k' := k.tail.tail) ?_ hq hi hf (.inl rfl))
          rw [hc, hs, chgo_step, if_neg e, chgo_step, if_pos e2]
          show (nren (nA i) kT kI, k.tail.tail) = _
          rw [ren_A]
        · refine .inl (setl_of (N := nA i) (k' := k.tail.tail) ?_ hq hi hf (.inl rfl))
          rw [hc, hs, chgo_step, if_neg e, chgo_step, if_neg e2]
          rfl
/-- An operation that the plate does not refuse: done, failed and done or not done, or cut. -/
theorem op_cases {M : DM} {ag : Int} {act : DM → DM} (ho : M.off = false) (ha : ag = 0) : ∃ o f x, let S : DM := { M with off := o, fuse := f, fault := x }
    ((opM M ag act).1 = 0 ∧ o = false ∧ (opM M ag act).2 = act S) ∨ (((opM M ag act).1 = 8 ∨ (opM M ag act).1 = 9) ∧ ((opM M ag act).2 = act S ∨ (opM M ag act).2 = S)) := by
  unfold opM
  rw [ho, ha]
  simp only [Bool.false_eq_true, if_false, ne_eq, not_true]
  unfold askM
  split
  · exact ⟨true, M.fuse, M.fault, .inr ⟨.inr rfl, .inr rfl⟩⟩
  · simp only
    split
    · exact ⟨M.off, _, M.fault, .inl ⟨rfl, ho, rfl⟩⟩
    · split
      · exact ⟨M.off, _, _, .inl ⟨rfl, ho, rfl⟩⟩
      · refine ⟨M.off, if 0 < M.fuse then M.fuse - 1 else M.fuse, M.fault - 1, .inr ⟨.inl rfl, ?_⟩⟩
        by_cases hd : M.done = true
        · exact .inl (if_pos hd)
        · exact .inr (if_neg hd)
/-- The states of a swap: what stands, up to the switches. -/
structure Wst (a : List Nat) (M : DM) (i : Nat) (N S : NM) (c : List Ef) : Prop where
  off : M.off = false
  qu : M.quota = 1048576
  nm : M.names = N
  sr : M.sure = S
  ch : M.ch = c
  hi : i < M.fs.length
  fi : fileAt M.fs i = calmF a
theorem agC {M : DM} {i : Nat} (h : M.names = nA i) : agCreate M kT = 0 := by
  unfold agCreate
  rw [h, look_AT]
  have : rightB kT = true := by decide
  rw [this]
  simp [nA]
theorem agM {M : DM} {i k n : Nat} (h : M.names = nB i k) (hq : M.quota = 1048576) (hn : n ≤ 500) (h1 : (fileAt M.fs i).b.length ≤ 500) (h2 : (fileAt M.fs k).b.length = 0) : agMore M kT n = 0 := by
  unfold agMore
  rw [h, look_BT, hq]
  have hu : used M.fs (nB i k) = (fileAt M.fs i).b.length + ((fileAt M.fs k).b.length + 0) := rfl
  rw [hu, if_neg (by simp), if_neg (by omega)]
theorem agT {M : DM} {i k : Nat} (h : M.names = nB i k) : agThere M kT = 0 := by
  unfold agThere
  rw [h, look_BT]
  rfl
theorem agR {M : DM} {i k : Nat} (h : M.names = nB i k) : agRename M kT kI = 0 := by
  unfold agRename
  rw [h, look_BT]
  have : rightB kI = true := by decide
  rw [this]
  rfl
/-- A step's end. -/
inductive Stp (a b : List Nat) (e : Int) (M : DM) (P : DM → Prop) : Prop
  | ok (h : e = 0) (p : P M)
  | bad (h : e = 8 ∨ e = 9) (g : Good a b M)
/-- One operation of a swap: what stood is good, what will stand is good. -/
theorem stp {a b : List Nat} {M : DM} {ag : Int} {act : DM → DM} {P : DM → Prop} (ho : M.off = false) (ha : ag = 0)
    (hg : ∀ o f x, Good a b { M with off := o, fuse := f, fault := x } ∧ Good a b (act { M with off := o, fuse := f, fault := x }))
    (hp : ∀ f x, P (act { M with off := false, fuse := f, fault := x })) : Stp a b (opM M ag act).1 (opM M ag act).2 P := by
  obtain ⟨o, f, x, h⟩ := op_cases (act := act) ho ha
  rcases h with ⟨h1, rfl, h2⟩ | ⟨h1, h2 | h2⟩
  · exact .ok h1 (by rw [h2]; exact hp f x)
  · exact .bad h1 (by rw [h2]; exact (hg o f x).2)
  · exact .bad h1 (by rw [h2]; exact (hg o f x).1)
/-- With a file of another name: it is removed. -/
def P0 (a : List Nat) (M : DM) : Prop := ∃ i j, j ≠ i ∧ Wst a M i (nB i j) (nB i j) []
def P1 (a : List Nat) (M : DM) : Prop := ∃ i j, j ≠ i ∧ Wst a M i (nA i) (nB i j) [.remove kT]
def P2 (a : List Nat) (M : DM) : Prop := ∃ i, Wst a M i (nA i) (nA i) []
def P3 (a c : List Nat) (ps : List Nat) (s : Nat) (M : DM) : Prop := ∃ i k, k ≠ i ∧ k < M.fs.length ∧ fileAt M.fs k = ⟨c, s, ps⟩ ∧ Wst a M i (nB i k) (nA i) [.create kT k]
def P6 (a b : List Nat) (M : DM) : Prop := ∃ i k, k ≠ i ∧ k < M.fs.length ∧ fileAt M.fs k = calmF b ∧ Wst a M i (nA k) (nA i) [.create kT k, .rename kT kI]
theorem st_remove {a b : List Nat} {M : DM} (h : P0 a M) : Stp a b (removeM M kT).1 (removeM M kT).2 (P1 a) := by
  obtain ⟨i, j, hj, h⟩ := h
  refine stp h.off (agT h.nm) (fun o f x => ⟨⟨h.qu, i, h.hi, h.fi, .inl ⟨h.ch, .inr ⟨j, hj, h.sr⟩⟩⟩, ⟨h.qu, i, h.hi, h.fi, .inr (.inl ⟨?_, j, hj, h.sr⟩)⟩⟩) (fun f x => ⟨i, j, hj, rfl, h.qu, ?_, h.sr, ?_, h.hi, h.fi⟩)
  · show M.ch ++ [_] = _; rw [h.ch]; rfl
  · show ndel kT M.names = _; rw [h.nm, del_B]
  · show M.ch ++ [_] = _; rw [h.ch]; rfl
theorem st_dir1 {a b : List Nat} {M : DM} (h : P1 a M) : Stp a b (dirM M).1 (dirM M).2 (P2 a) := by
  obtain ⟨i, j, hj, h⟩ := h
  exact stp h.off rfl (fun o f x => ⟨⟨h.qu, i, h.hi, h.fi, .inr (.inl ⟨h.ch, j, hj, h.sr⟩)⟩, ⟨h.qu, i, h.hi, h.fi, .inl ⟨rfl, .inl h.nm⟩⟩⟩) (fun f x => ⟨i, rfl, h.qu, h.nm, h.nm, rfl, h.hi, h.fi⟩)
theorem app_at {fs : List FM} {i : Nat} (h : i < fs.length) (f : FM) : fileAt (fs ++ [f]) i = fileAt fs i := by
  unfold fileAt
  rw [List.getD_eq_getElem?_getD, List.getD_eq_getElem?_getD, List.getElem?_append_left h]
theorem app_end (fs : List FM) (f : FM) : fileAt (fs ++ [f]) fs.length = f := by
  unfold fileAt
  rw [List.getD_eq_getElem?_getD, List.getElem?_concat_length]
  rfl
theorem st_create {a b : List Nat} {M : DM} (h : P2 a M) : Stp a b (createM M kT).1 (createM M kT).2 (P3 a [] [] 0) := by
  obtain ⟨i, h⟩ := h
  have hl : ∀ o f x, i < (actCreate kT { M with off := o, fuse := f, fault := x }).fs.length := fun o f x => by show i < (M.fs ++ [f0]).length; rw [List.length_append]; have := h.hi; omega
  have hk : ∀ o f x, M.fs.length < (actCreate kT { M with off := o, fuse := f, fault := x }).fs.length := fun o f x => by show _ < (M.fs ++ [f0]).length; rw [List.length_append, List.length_singleton]; omega
  have hf : ∀ o f x, fileAt (actCreate kT { M with off := o, fuse := f, fault := x }).fs i = calmF a := fun o f x => (app_at h.hi f0).trans h.fi
  have hne : M.fs.length ≠ i := by have := h.hi; omega
  have hc : ∀ o f x, (actCreate kT { M with off := o, fuse := f, fault := x }).ch = [.create kT M.fs.length] := fun o f x => by show M.ch ++ [_] = _; rw [h.ch]; rfl
  have hn : ∀ o f x, (actCreate kT { M with off := o, fuse := f, fault := x }).names = nB i M.fs.length := fun o f x => by show nput M.names kT M.fs.length = _; rw [h.nm, put_A]
  exact stp h.off (agC h.nm) (fun o f x => ⟨⟨h.qu, i, h.hi, h.fi, .inl ⟨h.ch, .inl h.sr⟩⟩, ⟨h.qu, i, hl o f x, hf o f x, .inr (.inr ⟨M.fs.length, hne, hk o f x, h.sr, .inl (hc o f x)⟩)⟩⟩)
    (fun f x => ⟨i, M.fs.length, hne, hk _ f x, app_end M.fs f0, rfl, h.qu, hn _ f x, h.sr, hc _ f x, hl _ f x, hf _ f x⟩)
/-- A file that is changed: what the others are stays. -/
theorem st_set {a b c c' ps ps' : List Nat} {s s' : Nat} {M : DM} {ag : Int} {act : DM → DM} (ha : ag = 0) (h : P3 a c ps s M)
    (hact : ∀ i k (X : DM), X.names = nB i k → fileAt X.fs k = ⟨c, s, ps⟩ → act X = setF X k ⟨c', s', ps'⟩) : Stp a b (opM M ag act).1 (opM M ag act).2 (P3 a c' ps' s') := by
  obtain ⟨i, k, hk, hl, hfk, h⟩ := h
  have e : ∀ o f x, act { M with off := o, fuse := f, fault := x } = setF { M with off := o, fuse := f, fault := x } k ⟨c', s', ps'⟩ := fun o f x => hact i k _ h.nm hfk
  have l2 : ∀ n, n < M.fs.length → n < (M.fs.set k ⟨c', s', ps'⟩).length := fun n hn => by rw [List.length_set]; exact hn
  refine stp h.off ha (fun o f x => ⟨⟨h.qu, i, h.hi, h.fi, .inr (.inr ⟨k, hk, hl, h.sr, .inl h.ch⟩)⟩, ?_⟩) (fun f x => ?_)
  · rw [e]
    exact ⟨h.qu, i, l2 i h.hi, (fileAt_set hk _).trans h.fi, .inr (.inr ⟨k, hk, l2 k hl, h.sr, .inl h.ch⟩)⟩
  · rw [e]
    exact ⟨i, k, hk, l2 k hl, fileAt_same hl _, rfl, h.qu, h.nm, h.sr, h.ch, l2 i h.hi, (fileAt_set hk _).trans h.fi⟩
theorem st_append {a b : List Nat} {M : DM} (ha : a.length ≤ 500) (hb : b.length ≤ 500) (h : P3 a [] [] 0 M) : Stp a b (appendM M kT b).1 (appendM M kT b).2 (fun M => ∃ ps, P3 a b ps 0 M) := by
  have hg : agMore M kT b.length = 0 := by
    obtain ⟨i, k, hk, hl, hfk, h⟩ := h
    refine agM h.nm h.qu hb ?_ ?_
    · rw [h.fi]; exact ha
    · rw [hfk]; rfl
  have := st_set (b := b) (c' := b) (ps' := if b.length = 0 then [] else [b.length]) (s' := 0) (act := actMore kT b) hg h (fun i k X hn hf => by
    unfold actMore
    rw [hn, look_BT]
    simp only
    rw [hf]
    unfold extF
    by_cases h0 : b.length = 0
    · rw [if_pos h0, if_pos h0, List.eq_nil_of_length_eq_zero h0]
    · rw [if_neg h0, if_neg h0]
      rfl)
  rcases this with ⟨h1, h2⟩ | ⟨h1, h2⟩
  · exact .ok h1 ⟨_, h2⟩
  · exact .bad h1 h2
theorem st_sync {a b ps : List Nat} {M : DM} (h : P3 a b ps 0 M) : Stp a b (syncM M kT).1 (syncM M kT).2 (P3 a b [] b.length) := by
  have hg : agThere M kT = 0 := by
    obtain ⟨i, k, hk, hl, hfk, h⟩ := h
    exact agT h.nm
  exact st_set hg h (fun i k X hn hf => by
    unfold actSync
    rw [hn, look_BT]
    simp only
    rw [hf]
    rfl)
theorem st_rename {a b : List Nat} {M : DM} (h : P3 a b [] b.length M) : Stp a b (renameM M kT kI).1 (renameM M kT kI).2 (P6 a b) := by
  obtain ⟨i, k, hk, hl, hfk, h⟩ := h
  have e : ∀ X : DM, actRename kT kI X = changeM X (.rename kT kI) := fun X => by unfold actRename; rw [if_neg kTI]
  have hc : M.ch ++ [.rename kT kI] = [.create kT k, .rename kT kI] := by rw [h.ch]; rfl
  have hn : nren M.names kT kI = nA k := by rw [h.nm, ren_B]
  refine stp h.off (agR h.nm) (fun o f x => ⟨⟨h.qu, i, h.hi, h.fi, .inr (.inr ⟨k, hk, hl, h.sr, .inl h.ch⟩)⟩, ?_⟩) (fun f x => ?_)
  · rw [e]
    exact ⟨h.qu, i, h.hi, h.fi, .inr (.inr ⟨k, hk, hl, h.sr, .inr ⟨hc, hfk⟩⟩)⟩
  · rw [e]
    exact ⟨i, k, hk, hl, hfk, rfl, h.qu, hn, h.sr, hc, h.hi, h.fi⟩
/-- A swap's end. -/
def SwapEnd (a b : List Nat) (e : Int) (M : DM) : Prop := (e = 0 ∧ Good b b M) ∨ ((e = 8 ∨ e = 9) ∧ (Good a b M ∨ Good b b M))
theorem st_dir2 {a b : List Nat} {M : DM} (h : P6 a b M) : SwapEnd a b (dirM M).1 (dirM M).2 := by
  obtain ⟨i, k, hk, hl, hfk, h⟩ := h
  have g1 : ∀ o f x, Good b b (actDir { M with off := o, fuse := f, fault := x }) := fun o f x => ⟨h.qu, k, hl, hfk, .inl ⟨rfl, .inl h.nm⟩⟩
  have g2 : ∀ o f x, Good a b { M with off := o, fuse := f, fault := x } := fun o f x => ⟨h.qu, i, h.hi, h.fi, .inr (.inr ⟨k, hk, hl, h.sr, .inr ⟨h.ch, hfk⟩⟩)⟩
  obtain ⟨o, f, x, h⟩ := op_cases (act := actDir) h.off (rfl : (0 : Int) = 0)
  unfold dirM
  rcases h with ⟨h1, rfl, h2⟩ | ⟨h1, h2 | h2⟩
  · exact .inl ⟨h1, by rw [h2]; exact g1 _ _ _⟩
  · exact .inr ⟨h1, .inr (by rw [h2]; exact g1 _ _ _)⟩
  · exact .inr ⟨h1, .inl (by rw [h2]; exact g2 _ _ _)⟩
theorem Setl.pre {b : List Nat} {M : DM} (h : Setl b M) (f x : Int) (d : Bool) : P0 b { M with fuse := f, fault := x, done := d } ∨ P2 b { M with fuse := f, fault := x, done := d } := by
  obtain ⟨i, hi, hf, hs | ⟨j, hj, hs⟩⟩ := h.ex
  · exact .inr ⟨i, h.off, h.qu, h.nm.trans hs, hs, h.ch, hi, hf⟩
  · exact .inl ⟨i, j, hj, h.off, h.qu, h.nm.trans hs, hs, h.ch, hi, hf⟩
theorem read_P0 {a : List Nat} {M : DM} (h : P0 a M) : (readM M kT).2 = 0 := by
  obtain ⟨i, j, hj, h⟩ := h
  unfold readM
  rw [h.off, h.nm, look_BT]
  rfl
theorem read_P2 {a : List Nat} {M : DM} (h : P2 a M) : (readM M kT).2 = 3 := by
  obtain ⟨i, h⟩ := h
  unfold readM
  rw [h.off, h.nm, look_AT]
  rfl
theorem Setl.read {b : List Nat} {M : DM} (h : Setl b M) : readM M kI = (b, 0) := by
  obtain ⟨i, hi, hf, hs⟩ := h.ex
  have hl : nlook M.names kI = some i := by
    rw [h.nm]
    rcases hs with hs | ⟨j, _, hs⟩ <;> rw [hs]
    · exact look_AI i
    · exact look_BI i j
  unfold readM
  rw [h.off, hl]
  show ((fileAt M.fs i).b, (0 : Int)) = _
  rw [hf]
  rfl
end Go.Icz
