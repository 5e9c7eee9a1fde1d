/-
  The reference's Iter: its map of numbers, New. Conditions: those that each theorem names.
-/
import Derived.Test.YtbebhcdnnfgchaaMliW
namespace Go.Icz
open Go.RowKit
/-- The best head of the first k rows, as the place of its row; -1 where there is none. -/
def bI {α : Type} (ky : α → Int × Int) (nb : Bool) (R : List (List α)) (k : Nat) : Int := match bU ky nb R k with | none => -1 | some (_, p) => (p : Int)
section
variable {α : Type} (ky : α → Int × Int) {nb : Bool} {R : List (List α)} {k : Nat}
theorem bI_nil (h : R[k]? = some []) : bI ky nb R (k + 1) = bI ky nb R k := by
  unfold bI
  conv => lhs; unfold bU
  rw [h]
theorem bI_new {y : α} {u : List α} (h : R[k]? = some (y :: u)) (hn : bU ky nb R k = none) : bI ky nb R (k + 1) = (k : Int) := by
  unfold bI
  conv => lhs; unfold bU
  rw [h]
  simp only [hn]
theorem bI_fst {y x : α} {u : List α} {p : Nat} (h : R[k]? = some (y :: u)) (hn : bU ky nb R k = some (x, p)) (hf : frst ky nb y x = true) : bI ky nb R (k + 1) = (k : Int) := by
  unfold bI
  conv => lhs; unfold bU
  rw [h]
  simp only [hn, hf, if_true]
theorem bI_old {y x : α} {u : List α} {p : Nat} (h : R[k]? = some (y :: u)) (hn : bU ky nb R k = some (x, p)) (hf : frst ky nb y x = false) : bI ky nb R (k + 1) = bI ky nb R k := by
  unfold bI
  conv => lhs; unfold bU
  rw [h]
  simp only [hn, hf]
  simp
end
theorem cellsS_put : ∀ (l : List SR) (k : Nat) (r : SR), k < l.length → KSl.cells (l.set k r) = (KSl.cells l).set k (.slice r.A r.l.length r.c)
  | [], k, r, h => by simp at h
  | x :: t, 0, r, _ => rfl
  | x :: t, k + 1, r, h => by
    have ih := cellsS_put t k r (by simpa using h)
    have e : ∀ (y : SR) (m : List SR), KSl.cells (y :: m) = .slice y.A y.l.length y.c :: KSl.cells m := fun _ _ => rfl
    rw [List.set_cons_succ, e, e, ih]
    rfl
theorem ownS_put {w : World} {B g n cap : Nat} {l : List SR} (h : KSl.Own w B (.slice (some ⟨g, 0, none⟩) n cap) l) (k : Nat) (hk : k < l.length) (r : SR) :
    KSl.Own (w.setCell ⟨g, k, none⟩ (.slice r.A r.l.length r.c)) B (.slice (some ⟨g, 0, none⟩) n cap) (l.set k r) := by
  have hn : n = l.length := by
    obtain ⟨A, c, e, _⟩ := h.rd.form
    injection e
  subst hn
  unfold Kd.Own at *
  rw [cellsS_put l k r hk, List.length_set]
  exact (World.ownsRow.stored h k _).1
end Go.Icz
namespace Go.Proofs.Ytbebhcdnnfgchaa
open Go.RowKit Go.Icz Go.Maps Go.ChangeMaps Go.MapKept
/-- The map in block m says true of just the numbers met. -/
def MBo (w : World) (m : Nat) (met : List Int) : Prop := ∃ D : DataW Unit, w.ownsMap Try.prog 3 (plainElem Try.prog 4) m met.length D ∧ ∀ k, D.atKey (.int .i64 k) (.lit (.bool false)) = .lit (.bool (decide (k ∈ met)))
theorem MBo.touch {S : Nat → Prop} {w w' : World} {m : Nat} {met : List Int} (h : MBo w m met) (t : Tch S w w') (hS : ¬ S m) : MBo w' m met := by
  obtain ⟨D, h1, h2⟩ := h
  exact ⟨D, ownsMap_touch h1 t hS, h2⟩
theorem MBo.lt {w : World} {m : Nat} {met : List Int} (h : MBo w m met) : m < w.heap.size := by
  obtain ⟨D, h1, _⟩ := h
  exact h1.lt
theorem MBo.noRow {w : World} {m : Nat} {met : List Int} (h : MBo w m met) : ∀ cur t z, w.heap[m]? ≠ some (.cells cur t z) := by
  obtain ⟨D, ⟨es, clock, h1, _⟩, _⟩ := h
  intro cur t z hc
  rw [h1] at hc
  cases hc
theorem MBo.look {w : World} {m : Nat} {met : List Int} (h : MBo w m met) (k : Int) (hk : wfI k) : (Instr.lookup 38 (.map (some m)) (.int .i64 k) false).run Try.prog w = .ok (.bool (decide (k ∈ met))) w := by
  obtain ⟨D, ho, ha⟩ := h
  obtain ⟨v, ps, hrun, hv⟩ := ho.lookup (int_keyed Try.underlying3) Try.underlying38 (Try.zeroValue4 w) (zd := .lit (.bool false)) (zp := []) (plainElem_bool Try.underlying4 false) (keyI hk)
  rw [ha k] at hv
  have hv2 : v = .bool (decide (k ∈ met)) := by
    unfold plainElem at hv
    rw [Try.underlying4] at hv
    cases v <;> simp at hv
    rw [hv.1]
  rw [hrun, hv2]
theorem MBo.store {w : World} {m : Nat} {met : List Int} (h : MBo w m met) (k : Int) (hk : wfI k) (hn : met.length < maxLen) : ∃ w', (Instr.mapUpdate 38 (.map (some m)) (.int .i64 k) (.bool true)).run Try.prog w = .ok () w' ∧ MBo w' m (k :: met) ∧ Tch (· = m) w w' := by
  obtain ⟨D, ho, ha⟩ := h
  obtain ⟨w', hrun, ho', ht⟩ := ho.store (int_keyed Try.underlying3) Try.underlying38 hn (keyI hk) (val := .bool true) (d := .lit (.bool true)) (ps := []) (plainElem_bool Try.underlying4 true)
  refine ⟨w', hrun, ⟨_, ho', fun j => ?_⟩, Tch.turned ht⟩
  by_cases hj : j = k
  · subst hj
    rw [Maps.atKey_put_same ho.isMap (il_key _)]
    simp
  · rw [Maps.atKey_put_other (il_ne hj), ha]
    simp [hj]
theorem MBo.made (w : World) : MBo (w.alloc (.map #[] 0)) w.heap.size [] := ⟨.map [], World.ownsMap_made .., fun k => by simp [DataW.atKey]⟩
/-- The reference's Iter in block q, its map in block m: the rows L, met were answered, sk were left away. -/
structure RIt (W0 w : World) (q m : Nat) (vr : Value) (nb : Bool) (L : List SR) (met : List Int) (sk : Nat) : Prop where
  at_ : w.heap[q]? = some (.cells #[vr, .bool nb, .map (some m), .int .i64 (sk : Int)] 40 (0, 0))
  own : KSl.Own w W0.heap.size vr L
  rd : ∀ r ∈ L, KEnt.Rd W0 (.slice r.A r.l.length r.c) r.l ∧ ∀ x ∈ r.l, GoodE W0 x
  mp : MBo w m met
  bel : Below W0.heap.size W0 w
  lo : W0.heap.size ≤ q ∧ W0.heap.size ≤ m
  bd : L.length ≤ 1099511627776 ∧ sk + totR (rowsOf L) ≤ 4398046511104 ∧ met.length + totR (rowsOf L) ≤ 4398046511104
/-- Where the reference's Iter lies. -/
def RE (q m : Nat) (vr : Value) (k : Nat) : Prop := k = q ∨ k = m ∨ vr.ownBlock = some k
theorem RIt.below {W0 w w' : World} {q m : Nat} {vr : Value} {nb : Bool} {L : List SR} {met : List Int} {sk : Nat} (h : RIt W0 w q m vr nb L met sk) (hb : Below w.heap.size w w') : RIt W0 w' q m vr nb L met sk :=
  ⟨(hb.block q (row_lt h.at_)).trans h.at_, h.own.below hb, h.rd, h.mp.touch (Tch.of_below hb (S := fun _ => False)) (fun h => h), h.bel.trans (hb.mono h.bel.size), h.lo, h.bd⟩
theorem RIt.touch {S : Nat → Prop} {W0 w w' : World} {q m : Nat} {vr : Value} {nb : Bool} {L : List SR} {met : List Int} {sk : Nat} (h : RIt W0 w q m vr nb L met sk) (t : Tch S w w') (hS : ∀ k, S k → ¬ RE q m vr k) (hlo : ∀ k, S k → W0.heap.size ≤ k) : RIt W0 w' q m vr nb L met sk :=
  ⟨t.row h.at_ (fun e => hS q e (.inl rfl)), h.own.touch t (fun k e e2 => hS k e (.inr (.inr e2))), h.rd, h.mp.touch t (fun e => hS m e (.inr (.inl rfl))), Tch.below h.bel t hlo h.bel.size, h.lo, h.bd⟩
theorem RIt.mq {W0 w : World} {q m : Nat} {vr : Value} {nb : Bool} {L : List SR} {met : List Int} {sk : Nat} (h : RIt W0 w q m vr nb L met sk) : m ≠ q ∧ (∀ k, vr.ownBlock = some k → k ≠ q ∧ k ≠ m ∧ W0.heap.size ≤ k ∧ k < w.heap.size ∧ ∃ cur, w.heap[k]? = some (.cells cur 30 (0, 0))) := by
  refine ⟨fun e => by have h1 := h.at_; rw [← e] at h1; exact h.mp.noRow _ _ _ h1, fun k hk => ?_⟩
  have hl := h.own.lt k hk
  obtain ⟨cur, hc⟩ : ∃ cur, w.heap[k]? = some (.cells cur 30 (0, 0)) := by
    rcases h.own.2 with ⟨rfl, _⟩ | ⟨g, cap, cur, rfl, _, hh, _⟩
    · cases hk
    · injection hk with hk
      have hk : g = k := hk
      subst hk
      exact ⟨cur, hh⟩
  refine ⟨fun e => ?_, fun e => by rw [e] at hc; exact h.mp.noRow _ _ _ hc, hl.1, hl.2, cur, hc⟩
  rw [e, h.at_] at hc
  injection hc with hc
  injection hc with _ h2 _
  exact absurd h2 (by decide)
theorem RE.lo {W0 w : World} {q m : Nat} {vr : Value} {nb : Bool} {L : List SR} {met : List Int} {sk : Nat} (h : RIt W0 w q m vr nb L met sk) : ∀ k, RE q m vr k → W0.heap.size ≤ k := by
  rintro k (rfl | rfl | hk)
  · exact h.lo.1
  · exact h.lo.2
  · exact (h.own.lt k hk).1
set_option maxRecDepth 100000 in
set_option maxHeartbeats 2000000 in
theorem RNew_is (v : Value) (nb : Bool) (R : List SR) (W0 : World) (hR : RdR W0 v R) (hz : SzR R) :
    Calls Try.prog 13 #[v, .bool nb] W0 fun e w' => ∃ q m vr, e = .returned (.pointer (some ⟨q, 0, none⟩)) ∧ RIt W0 w' q m vr nb R [] 0 ∧ Below W0.heap.size W0 w' := by
  have hMM := @run_makeMap Try.prog
  have hr1 := hR.1.alloc (.cells #[] 30)
  have fin : ∀ u w1, KSl.Own w1 W0.heap.size u R → Below W0.heap.size W0 w1 →
      RIt W0 ((w1.alloc (.map #[] 0)).alloc (.cells #[u, .bool nb, .map (some w1.heap.size), .int .i64 0] 40)) (w1.heap.size + 1) w1.heap.size u nb R [] 0 ∧ Below W0.heap.size W0 ((w1.alloc (.map #[] 0)).alloc (.cells #[u, .bool nb, .map (some w1.heap.size), .int .i64 0] 40)) := by
    intro u w1 h1 h6
    have hb : Below w1.heap.size w1 ((w1.alloc (.map #[] 0)).alloc (.cells #[u, .bool nb, .map (some w1.heap.size), .int .i64 0] 40)) := ((Below.refl _ w1).alloc (Nat.le_refl _) _).alloc (by simp) _
    have hb' := h6.trans (hb.mono h6.size)
    have hr := heap_alloc_new (w1.alloc (.map #[] 0)) (.cells #[u, .bool nb, .map (some w1.heap.size), .int .i64 0] 40)
    rw [World.size_alloc] at hr
    have hz1 := h6.size
    exact ⟨⟨hr, h1.below hb, hR.2, (MBo.made w1).touch (Tch.alloc (fun _ => False) _ _) (fun h => h), hb', ⟨by omega, hz1⟩, ⟨hz.1, by have : totR (rowsOf R) ≤ 1099511627776 := hz.2; simp; omega, by have : totR (rowsOf R) ≤ 1099511627776 := hz.2; simp; omega⟩⟩, hb'⟩
  have hlen := hz.1
  go_enter Try.func13, Try.ntmps13
  go_wp2_with (at_builtin; refine Kd.wp_app rfl (.tmp 5) (.tmp 6) 22 rfl Try.underlying22 infoS rfl W0.heap.size _ _ [] R rfl (Kd.made W0) rfl hr1 ?_ ?_ ?_ ?_; (focus (unfold maxLen; simp; omega)); (focus (simp; omega)); (focus simp); intro v1 w1 o1 b1 g1 n1; have FN := fin v1 w1 o1 (below_alloc' (Nat.le_refl _) b1); obtain ⟨A1, c1, rfl, _⟩ := o1.rd.form; clear fin)
  go_ret
  exact ⟨_, _, _, rfl, FN.1, FN.2⟩
end Go.Proofs.Ytbebhcdnnfgchaa
