/-
  The mathematics of SimdiskFaults: two disks that differ in their switches alone; two disks in one memory. Conditions: those that each theorem names.
-/
import Derived.Test.YtjpneohachkheaaSgp
namespace Go.Icz
open Go.RowKit
/-- The switches are calm. -/
def NoSw (M : DM) : Prop := M.off = false ∧ M.fuse = -1 ∧ M.fault = 0
/-- Two disks that hold the same. -/
def AgrD (A B : DM) : Prop := A.off = false ∧ B.off = false ∧ A.quota = B.quota ∧ A.fs = B.fs ∧ A.names = B.names ∧ A.sure = B.sure ∧ A.ch = B.ch
theorem AgrD.selfD {A : DM} (h : A.off = false) : AgrD A A := ⟨h, h, rfl, rfl, rfl, rfl, rfl⟩
theorem AgrD.ex {A B : DM} (h : AgrD A B) : ∃ o f a d, B = { A with off := o, fuse := f, fault := a, done := d } := by
  obtain ⟨ao, af, aa, ad, aq, a1, a2, a3, a4⟩ := A
  obtain ⟨bo, bf, ba, bd, bq, b1, b2, b3, b4⟩ := B
  obtain ⟨h1, h2, h3, h4, h5, h6, h7⟩ := h
  simp only at *
  subst h3 h4 h5 h6 h7
  exact ⟨bo, bf, ba, bd, rfl⟩
theorem AgrD.crash {A B : DM} (h : AgrD A B) (k : List Bool) : crashM A k = crashM B k := by
  obtain ⟨o, f, a, d, rfl⟩ := h.ex
  rfl
theorem AgrD.list {A B : DM} (h : AgrD A B) : listM A = listM B := by unfold listM; rw [h.2.2.2.2.1]
theorem AgrD.used {A B : DM} (h : AgrD A B) : used A.fs A.names = used B.fs B.names := by rw [h.2.2.2.1, h.2.2.2.2.1]
theorem AgrD.read {A B : DM} (h : AgrD A B) (k : ByteArray) : readM A k = readM B k := by unfold readM; rw [h.1, h.2.1, h.2.2.2.1, h.2.2.2.2.1]
theorem agr_create (k : ByteArray) {A B : DM} (h : AgrD A B) : AgrD (actCreate k A) (actCreate k B) := by
  have ho := h.2.1
  obtain ⟨o, f, a, d, rfl⟩ := h.ex
  exact ⟨h.1, ho, rfl, rfl, rfl, rfl, rfl⟩
theorem agr_more (k : ByteArray) (l : List Nat) {A B : DM} (h : AgrD A B) : AgrD (actMore k l A) (actMore k l B) := by
  have ho := h.2.1
  obtain ⟨o, f, a, d, rfl⟩ := h.ex
  unfold actMore
  show AgrD (match nlook A.names k with | none => A | some i => setF A i (extF (fileAt A.fs i) l)) (match nlook A.names k with | none => _ | some i => setF _ i (extF (fileAt A.fs i) l))
  cases nlook A.names k with
  | none => exact h
  | some i => exact ⟨h.1, ho, rfl, rfl, rfl, rfl, rfl⟩
theorem agr_rename (x y : ByteArray) {A B : DM} (h : AgrD A B) : AgrD (actRename x y A) (actRename x y B) := by
  have ho := h.2.1
  unfold actRename
  split
  · exact h
  · obtain ⟨o, f, a, d, rfl⟩ := h.ex
    exact ⟨h.1, ho, rfl, rfl, rfl, rfl, rfl⟩
theorem agr_remove (k : ByteArray) {A B : DM} (h : AgrD A B) : AgrD (actRemove k A) (actRemove k B) := by
  have ho := h.2.1
  obtain ⟨o, f, a, d, rfl⟩ := h.ex
  exact ⟨h.1, ho, rfl, rfl, rfl, rfl, rfl⟩
theorem agr_sync (k : ByteArray) {A B : DM} (h : AgrD A B) : AgrD (actSync k A) (actSync k B) := by
  have ho := h.2.1
  obtain ⟨o, f, a, d, rfl⟩ := h.ex
  unfold actSync
  show AgrD (match nlook A.names k with | none => A | some i => setF A i (synF (fileAt A.fs i))) (match nlook A.names k with | none => _ | some i => setF _ i (synF (fileAt A.fs i)))
  cases nlook A.names k with
  | none => exact h
  | some i => exact ⟨h.1, ho, rfl, rfl, rfl, rfl, rfl⟩
theorem agr_dir {A B : DM} (h : AgrD A B) : AgrD (actDir A) (actDir B) := by
  have ho := h.2.1
  obtain ⟨o, f, a, d, rfl⟩ := h.ex
  exact ⟨h.1, ho, rfl, rfl, rfl, rfl, rfl⟩
theorem ask_nosw {M : DM} (h : NoSw M) : askM M = (true, 0, M) := by
  obtain ⟨o, f, a, d, q, x1, x2, x3, x4⟩ := M
  obtain ⟨h1, h2, h3⟩ := h
  simp only at h1 h2 h3
  subst h1 h2 h3
  rfl
theorem ask_fail {M : DM} (h : NoSw M) (d : Bool) : askM (failM M 1 d) = (d, 8, { M with done := d }) := by
  obtain ⟨o, f, a, d', q, x1, x2, x3, x4⟩ := M
  obtain ⟨h1, h2, h3⟩ := h
  simp only at h1 h2 h3
  subst h1 h2 h3
  rfl
theorem op_faults {M : DM} {ag : Int} {act : DM → DM} (h : NoSw M) (hA : ∀ A B, AgrD A B → AgrD (act A) (act B)) (d : Bool) : AgrD (opM (failM M 1 d) ag act).2 (if d then (opM M ag act).2 else M) := by
  unfold opM
  have e1 : (failM M 1 d).off = false := h.1
  rw [e1, h.1, ask_nosw h, ask_fail h]
  have h1 : AgrD (failM M 1 d) M := ⟨h.1, h.1, rfl, rfl, rfl, rfl, rfl⟩
  have h2 : AgrD { M with done := d } M := ⟨h.1, h.1, rfl, rfl, rfl, rfl, rfl⟩
  simp only [Bool.false_eq_true, if_false, if_true]
  by_cases ha : ag ≠ 0
  · rw [if_pos ha, if_pos ha]
    cases d <;> exact h1
  · rw [if_neg ha, if_neg ha]
    cases d
    · exact h2
    · exact hA _ _ h2
theorem do_faults {M : DM} (h : NoSw M) (kd : Int) (nm to : ByteArray) (l : List Nat) (n : Int) (y : Bool) (h0 : 0 ≤ kd) (h5 : kd ≤ 5) (d : Bool) : AgrD (doM kd nm to l n y (failM M 1 d)) (if d then doM kd nm to l n y M else M) := by
  unfold doM
  by_cases k0 : kd = 0
  · simp only [k0, if_true]; exact op_faults h (fun _ _ => agr_create nm) d
  by_cases k1 : kd = 1
  · simp only [k1]; exact op_faults h (fun _ _ => agr_more nm l) d
  by_cases k2 : kd = 2
  · simp only [k2]; exact op_faults h (fun _ _ => agr_rename nm to) d
  by_cases k3 : kd = 3
  · simp only [k3]; exact op_faults h (fun _ _ => agr_remove nm) d
  by_cases k4 : kd = 4
  · simp only [k4]; exact op_faults h (fun _ _ => agr_sync nm) d
  by_cases k5 : kd = 5
  · simp only [k5]; exact op_faults h (fun _ _ => agr_dir) d
  · omega
theorem op_nosw {M : DM} {ag : Int} {act : DM → DM} (h : NoSw M) (hA : ∀ M, NoSw M → NoSw (act M)) : NoSw (opM M ag act).2 := by
  unfold opM
  rw [h.1, ask_nosw h]
  simp only [Bool.false_eq_true, if_false, if_true]
  split
  · exact h
  · exact hA _ h
theorem do_nosw {M : DM} (h : NoSw M) (kd : Int) (nm to : ByteArray) (l : List Nat) (n : Int) (y : Bool) (h5 : kd ≤ 5) : NoSw (doM kd nm to l n y M) := by
  unfold doM
  split
  · exact op_nosw h (fun _ h => h)
  split
  · refine op_nosw h (fun M h => ?_)
    unfold actMore
    split <;> exact h
  split
  · refine op_nosw h (fun M h => ?_)
    unfold actRename
    split <;> exact h
  split
  · exact op_nosw h (fun _ h => h)
  split
  · refine op_nosw h (fun M h => ?_)
    unfold actSync
    split <;> exact h
  split
  · exact op_nosw h (fun _ h => h)
  split
  · omega
  split
  · omega
  · exact h
/-- What a disk is behind the first k of some operations. -/
def foM (l : List OpD) (k : Nat) : DM := (l.take k).foldl (fun M o => if o.kd ≤ 5 then doO o M else M) (newM 1048576)
theorem foM_step {l : List OpD} {k : Nat} (h : k < l.length) : foM l (k + 1) = if l[k].kd ≤ 5 then doO l[k] (foM l k) else foM l k := by
  unfold foM
  rw [List.take_succ_eq_append_getElem h, List.foldl_append]
  rfl
theorem foM_nosw (l : List OpD) : ∀ k, k ≤ l.length → NoSw (foM l k)
  | 0, _ => by unfold foM; exact ⟨rfl, rfl, rfl⟩
  | k + 1, h => by
    rw [foM_step (by omega)]
    have ih := foM_nosw l k (by omega)
    split
    · exact do_nosw ih _ _ _ _ _ _ (by assumption)
    · exact ih
end Go.Icz
namespace Go.Proofs.Ytjpneohachkheaa
open Go.RowKit Go.Icz Go.Maps
set_option maxRecDepth 100000
/-- Two disks in one memory, above what bd says, apart. -/
def Two (w : World) (bd c q0 p0 : Nat) (M0 : DM) (q1 p1 : Nat) (M1 : DM) : Prop :=
  ∃ T0 T1 : Nat → Prop, (∀ k, T0 k → bd ≤ k) ∧ (∀ k, T1 k → bd ≤ k) ∧ (∀ k, T0 k → ¬ T1 k) ∧ Dsk w T0 c q0 p0 M0 ∧ Dsk w T1 c q1 p1 M1
variable {w w' : World} {bd c c' q0 p0 q1 p1 : Nat} {M0 M1 M M' : DM}
theorem Two.swap (h : Two w bd c q0 p0 M0 q1 p1 M1) : Two w bd c q1 p1 M1 q0 p0 M0 := by
  obtain ⟨T0, T1, h0, h1, h2, d0, d1⟩ := h
  exact ⟨T1, T0, h1, h0, fun k a b => h2 k b a, d1, d0⟩
theorem Two.below (h : Two w bd c q0 p0 M0 q1 p1 M1) (b : Below w.heap.size w w') : Two w' bd c q0 p0 M0 q1 p1 M1 := by
  obtain ⟨T0, T1, h0, h1, h2, d0, d1⟩ := h
  exact ⟨T0, T1, h0, h1, h2, d0.below b, d1.below b⟩
theorem Two.up (h : Two w bd c q0 p0 M0 q1 p1 M1) (hc : c ≤ c') (hb : c' ≤ 1048576) : Two w bd c' q0 p0 M0 q1 p1 M1 := by
  obtain ⟨T0, T1, h0, h1, h2, d0, d1⟩ := h
  exact ⟨T0, T1, h0, h1, h2, d0.up hc hb, d1.up hc hb⟩
/-- The first one works: the other one stays. -/
theorem Two.first (h : Two w bd c q0 p0 M0 q1 p1 M1) (hbd : bd ≤ w.heap.size) : ∃ T : Nat → Prop, (∀ k, w.heap.size ≤ k → T k) ∧ (∀ k, T k → bd ≤ k) ∧ Dsk w T c q0 p0 M0 ∧
    ∀ w' c' M', c ≤ c' → c' ≤ 1048576 → Dn w T c' q0 p0 M' w' → Two w' bd c' q0 p0 M' q1 p1 M1 ∧ Below bd w w' := by
  obtain ⟨T0, T1, h0, h1, h2, d0, d1⟩ := h
  refine ⟨fun k => (T0 k ∧ k < w.heap.size) ∨ w.heap.size ≤ k, fun k hk => .inr hk, fun k hk => ?_, d0.re (fun k a b => .inl ⟨a, b⟩), fun w' c' M' hc hb D => ?_⟩
  · rcases hk with hk | hk
    · exact h0 k hk.1
    · exact Nat.le_trans hbd hk
  · obtain ⟨D, t⟩ := D
    have far : ∀ k, ((T0 k ∧ k < w.heap.size) ∨ w.heap.size ≤ k) → ¬ (T1 k ∧ k < w.heap.size) := fun k a b => by
      rcases a with a | a
      · exact h2 k a.1 b.1
      · have := b.2; omega
    have e1 : Dsk w (fun k => T1 k ∧ k < w.heap.size) c q1 p1 M1 := d1.re (fun k a b => ⟨a, b⟩)
    refine ⟨⟨_, _, fun k hk => ?_, fun k hk => h1 k hk.1, far, D, (e1.touch t far).up hc hb⟩, tch_up (t.mono fun k hk => ?_) hbd⟩
    · rcases hk with hk | hk
      · exact h0 k hk.1
      · exact Nat.le_trans hbd hk
    · rcases hk with hk | hk
      · exact h0 k hk.1
      · exact Nat.le_trans hbd hk
abbrev ptr (q : Nat) : Value := .pointer (some ⟨q, 0, none⟩)
abbrev nilp : Value := .pointer none
/-- The first loop: how many disks there are. -/
def Ph (w : World) (ab : Nat) (Mf : DM) (i : Nat) : Prop :=
  (i = 0 ∧ w.heap[ab]? = some (.cells #[nilp, nilp] 58 (0, 0))) ∨
  (i = 1 ∧ ∃ q0 p0, ∃ T0 : Nat → Prop, w.heap[ab]? = some (.cells #[ptr q0, nilp] 58 (0, 0)) ∧ (∀ k, T0 k → ab + 1 ≤ k) ∧ Dsk w T0 200 q0 p0 Mf) ∨
  (i = 2 ∧ ∃ q0 p0 q1 p1, w.heap[ab]? = some (.cells #[ptr q0, ptr q1] 58 (0, 0)) ∧ Two w (ab + 1) 200 q0 p0 Mf q1 p1 Mf)
theorem Ph.below {ab i : Nat} {Mf : DM} (h : Ph w ab Mf i) (hab : ab < w.heap.size) (b : Below w.heap.size w w') : Ph w' ab Mf i := by
  have hb : w'.heap[ab]? = w.heap[ab]? := b.block ab hab
  rcases h with ⟨hi, h⟩ | ⟨hi, q0, p0, T0, h, h1, d⟩ | ⟨hi, q0, p0, q1, p1, h, t⟩
  · exact .inl ⟨hi, hb.trans h⟩
  · exact .inr (.inl ⟨hi, q0, p0, T0, hb.trans h, h1, d.below b⟩)
  · exact .inr (.inr ⟨hi, q0, p0, q1, p1, hb.trans h, t.below b⟩)
theorem Ph.step {wa : World} {ab i : Nat} {Mf : DM} (h : Ph wa ab Mf i) (hi : i < 2) (hab : ab < wa.heap.size) : ∃ Old : Nat → World → Prop, ∃ row : Array Value,
    wa.heap[ab]? = some (.cells row 58 (0, 0)) ∧ row.size = 2 ∧
    (∀ w1 q, Below wa.heap.size wa w1 → Old q (w1.setCell ⟨ab, i, none⟩ (ptr q))) ∧
    (∀ q w1 w2, Old q w1 → Tch (fun k => wa.heap.size ≤ k) w1 w2 → Old q w2) ∧
    (∀ w1 q p, Old q w1 → Dsk w1 (fun k => wa.heap.size ≤ k) 200 q p Mf → Ph w1 ab Mf (i + 1)) := by
  have keep : ∀ (w1 w2 : World), Tch (fun k => wa.heap.size ≤ k) w1 w2 → ∀ o, w1.heap[ab]? = some o → w2.heap[ab]? = some o := fun w1 w2 t o ho => by
    have hlt : ab < w1.heap.size := by
      rcases Nat.lt_or_ge ab w1.heap.size with h | h
      · exact h
      · rw [Array.getElem?_eq_none h] at ho
        cases ho
    exact (t.block ab hlt (by show ¬ wa.heap.size ≤ ab; omega)).trans ho
  rcases h with ⟨hi0, h⟩ | ⟨hi0, q0, p0, T0, h, h1, d⟩ | ⟨hi0, _⟩
  · subst hi0
    refine ⟨fun q w1 => w1.heap[ab]? = some (.cells #[ptr q, nilp] 58 (0, 0)), _, h, rfl, fun w1 q b => ?_, fun q w1 w2 h t => keep w1 w2 t _ h, fun w1 q p h D => .inr (.inl ⟨rfl, q, p, _, h, fun k hk => Nat.lt_of_lt_of_le hab hk, D⟩)⟩
    exact row_set ((b.block ab hab).trans h) (ptr q)
  · subst hi0
    refine ⟨fun q w1 => w1.heap[ab]? = some (.cells #[ptr q0, ptr q] 58 (0, 0)) ∧ Dsk w1 (fun k => T0 k ∧ k < wa.heap.size) 200 q0 p0 Mf, _, h, rfl, fun w1 q b => ⟨row_set ((b.block ab hab).trans h) (ptr q), ?_⟩, fun q w1 w2 h t => ⟨keep w1 w2 t _ h.1, h.2.touch t (fun k a b => by have := b.2; omega)⟩, fun w1 q p h D => .inr (.inr ⟨rfl, q0, p0, q, p, h.1, _, _, fun k hk => h1 k hk.1, fun k hk => Nat.lt_of_lt_of_le hab hk, fun k a b => ?_, h.2, D⟩)⟩
    · exact ((d.re (T' := fun k => T0 k ∧ k < wa.heap.size) (fun k a b => ⟨a, b⟩)).below b).touch (Tch.set (· = ab) w1 ⟨ab, 1, none⟩ _ rfl) (fun k a b => by have := h1 k b.1; subst a; omega)
    · have := a.2; omega
  · omega
end Go.Proofs.Ytjpneohachkheaa
