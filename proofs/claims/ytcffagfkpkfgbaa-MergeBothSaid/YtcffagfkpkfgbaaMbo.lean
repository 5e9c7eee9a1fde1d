/-
  A map of numbers and booleans. Conditions: those that each theorem names.
-/
import Derived.Test.YtcffagfkpkfgbaaMliW
namespace Go.Icz
open Go.RowKit
/-- The best head of the first k rows, as the place of its row; -1 where there is none. -/
def bI {α : Type} (ky : α → Int × Int) (nb : Bool) (R : List (List α)) (k : Nat) : Int := match bU ky nb R k with | none => -1 | some (_, p) => (p : Int)
section
variable {α : Type} (ky : α → Int × Int) {nb : Bool} {R : List (List α)} {k : Nat}
theorem bI_nil (h : R[k]? = some []) : bI ky nb R (k + 1) = bI ky nb R k := by
  unfold bI
  conv => lhs; unfold bU
  rw [h]
theorem bI_new {y : α} {u : List α} (h : R[k]? = some (y :: u)) (hn : bU ky nb R k = none) : bI ky nb R (k + 1) = (k : Int) := by
  unfold bI
  conv => lhs; unfold bU
  rw [h]
  simp only [hn]
theorem bI_fst {y x : α} {u : List α} {p : Nat} (h : R[k]? = some (y :: u)) (hn : bU ky nb R k = some (x, p)) (hf : frst ky nb y x = true) : bI ky nb R (k + 1) = (k : Int) := by
  unfold bI
  conv => lhs; unfold bU
  rw [h]
  simp only [hn, hf, if_true]
theorem bI_old {y x : α} {u : List α} {p : Nat} (h : R[k]? = some (y :: u)) (hn : bU ky nb R k = some (x, p)) (hf : frst ky nb y x = false) : bI ky nb R (k + 1) = bI ky nb R k := by
  unfold bI
  conv => lhs; unfold bU
  rw [h]
  simp only [hn, hf]
  simp
end
theorem cellsS_put : ∀ (l : List SR) (k : Nat) (r : SR), k < l.length → KSl.cells (l.set k r) = (KSl.cells l).set k (.slice r.A r.l.length r.c)
  | [], k, r, h => by simp at h
  | x :: t, 0, r, _ => rfl
  | x :: t, k + 1, r, h => by
    have ih := cellsS_put t k r (by simpa using h)
    have e : ∀ (y : SR) (m : List SR), KSl.cells (y :: m) = .slice y.A y.l.length y.c :: KSl.cells m := fun _ _ => rfl
    rw [List.set_cons_succ, e, e, ih]
    rfl
theorem ownS_put {w : World} {B g n cap : Nat} {l : List SR} (h : KSl.Own w B (.slice (some ⟨g, 0, none⟩) n cap) l) (k : Nat) (hk : k < l.length) (r : SR) :
    KSl.Own (w.setCell ⟨g, k, none⟩ (.slice r.A r.l.length r.c)) B (.slice (some ⟨g, 0, none⟩) n cap) (l.set k r) := by
  have hn : n = l.length := by
    obtain ⟨A, c, e, _⟩ := h.rd.form
    injection e
  subst hn
  unfold Kd.Own at *
  rw [cellsS_put l k r hk, List.length_set]
  exact (World.ownsRow.stored h k _).1
end Go.Icz
namespace Go.Proofs.Ytcffagfkpkfgbaa
open Go.RowKit Go.Icz Go.Maps Go.ChangeMaps Go.MapKept
/-- The map in block m says true of just the numbers met. -/
def MBo (w : World) (m : Nat) (met : List Int) : Prop := ∃ D : DataW Unit, w.ownsMap Try.prog 3 (plainElem Try.prog 4) m met.length D ∧ ∀ k, D.atKey (.int .i64 k) (.lit (.bool false)) = .lit (.bool (decide (k ∈ met)))
theorem MBo.touch {S : Nat → Prop} {w w' : World} {m : Nat} {met : List Int} (h : MBo w m met) (t : Tch S w w') (hS : ¬ S m) : MBo w' m met := by
  obtain ⟨D, h1, h2⟩ := h
  exact ⟨D, ownsMap_touch h1 t hS, h2⟩
theorem MBo.lt {w : World} {m : Nat} {met : List Int} (h : MBo w m met) : m < w.heap.size := by
  obtain ⟨D, h1, _⟩ := h
  exact h1.lt
theorem MBo.noRow {w : World} {m : Nat} {met : List Int} (h : MBo w m met) : ∀ cur t z, w.heap[m]? ≠ some (.cells cur t z) := by
  obtain ⟨D, ⟨es, clock, h1, _⟩, _⟩ := h
  intro cur t z hc
  rw [h1] at hc
  cases hc
theorem MBo.look {w : World} {m : Nat} {met : List Int} (h : MBo w m met) (k : Int) (hk : wfI k) : (Instr.lookup 36 (.map (some m)) (.int .i64 k) false).run Try.prog w = .ok (.bool (decide (k ∈ met))) w := by
  obtain ⟨D, ho, ha⟩ := h
  obtain ⟨v, ps, hrun, hv⟩ := ho.lookup (int_keyed Try.underlying3) Try.underlying36 (Try.zeroValue4 w) (zd := .lit (.bool false)) (zp := []) (plainElem_bool Try.underlying4 false) (keyI hk)
  rw [ha k] at hv
  have hv2 : v = .bool (decide (k ∈ met)) := by
    unfold plainElem at hv
    rw [Try.underlying4] at hv
    cases v <;> simp at hv
    rw [hv.1]
  rw [hrun, hv2]
theorem MBo.store {w : World} {m : Nat} {met : List Int} (h : MBo w m met) (k : Int) (hk : wfI k) (hn : met.length < maxLen) : ∃ w', (Instr.mapUpdate 36 (.map (some m)) (.int .i64 k) (.bool true)).run Try.prog w = .ok () w' ∧ MBo w' m (k :: met) ∧ Tch (· = m) w w' := by
  obtain ⟨D, ho, ha⟩ := h
  obtain ⟨w', hrun, ho', ht⟩ := ho.store (int_keyed Try.underlying3) Try.underlying36 hn (keyI hk) (val := .bool true) (d := .lit (.bool true)) (ps := []) (plainElem_bool Try.underlying4 true)
  refine ⟨w', hrun, ⟨_, ho', fun j => ?_⟩, Tch.turned ht⟩
  by_cases hj : j = k
  · subst hj
    rw [Maps.atKey_put_same ho.isMap (il_key _)]
    simp
  · rw [Maps.atKey_put_other (il_ne hj), ha]
    simp [hj]
theorem MBo.made (w : World) : MBo (w.alloc (.map #[] 0)) w.heap.size [] := ⟨.map [], World.ownsMap_made .., fun k => by simp [DataW.atKey]⟩
end Go.Proofs.Ytcffagfkpkfgbaa
