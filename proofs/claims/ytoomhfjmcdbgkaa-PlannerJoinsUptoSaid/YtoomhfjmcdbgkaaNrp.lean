/-
  What the reference's Pack tells. Conditions: the list is no longer than 2^40; a number is one that an int holds.
-/
import Derived.Test.YtoomhfjmcdbgkaaNpk
import Derived.BigQuiet
namespace Go.Icz
open Go.RowKit
/-- 'append(v, x...)' at a step of a region that draws its order. -/
theorem Kd.step_app {α : Type} {K : Kd α} {P : Program} {ops : Array Oper} {o : Oper} {a : Act} {Kn : Act → World → Prop} {Q : Exit → Act → World → Prop} {E : Prop} {w : World} (hgd : o.guard = none) (s x : Operand) (t : TypeId)
    (ho : o.op = .call { callee := .builtin .append, args := #[s, x], argTypes := #[t, t] }) (ht : P.underlying t = some (.slice K.e)) {zv : Value} {by' : Nat} (info : (P.info? K.e).map (fun i => (i.zero, i.size, i.bytes)) = some (some zv, K.z, by')) (hzs : zv.cells.size = K.z)
    (B : Nat) (v u : Value) (l m : List α) (hs : a.eval s = v) (hown : K.Own w B v l) (hx : a.eval x = u) (hr : K.Rd w u m)
    (hmax : l.length + m.length ≤ maxLen) (hlen : (l.length + m.length) * by' ≤ 140737488355328) (hB : B ≤ w.heap.size)
    (h : ∀ v' w', K.Own w' B v' (l ++ m) → Below B w w' → w.grownBy w' v.ownBlock → Kn (a.put o.dst v') w') :
    if Region.wanted o (yielded ops a.tmps) = true then Oper.wp P o a w Kn Q else E := by
  obtain ⟨v', w', hrun, h1, h2⟩ := Kd.run_app t o.type ht info hzs B v u l m hown hr hmax hlen hB
  exact step_run_app hgd s x t ho v u v' w' hs hx hrun (h v' w' h1 ((Below.refl B w).grown h2 hB (fun k hk => (hown.lt k hk).1)) h2)
theorem Kd.own_empty {α : Type} {K : Kd α} {w : World} {B g : Nat} (h : w.heap[g]? = some (.cells #[] K.e (0, 0))) (hB : B ≤ g) : K.Own w B (.slice (some ⟨g, 0, none⟩) 0 0) [] := by
  refine ⟨by simp [Kd.cells], .inr ⟨g, 0, #[], rfl, hB, h, by simp, by simp, by simp, by simp [Kd.cells]⟩⟩
theorem over_ids {l : List MV} (h : FinT l) {i : Nat} (hi : i < l.length) {s : List MV} {p : MV → Bool} (hp : s.Perm ((l.take i).filter p)) : ∀ y ∈ s, y.id ≠ l[i].id := by
  intro y hy e
  have h1 := (fin_step hi).1 (h.sub (List.take_sublist _ _))
  have h2 := (List.mem_filter.1 (hp.subset hy)).1
  exact h1.2.2 (by unfold idsM; rw [List.mem_map]; exact ⟨y, h2, e⟩)
theorem perm_insert {s t : List MV} {x : MV} (k : Nat) (hp : s.Perm t) : (s.take k ++ [x] ++ s.drop k).Perm (t ++ [x]) := by
  refine List.Perm.trans ?_ (List.Perm.append_right [x] hp)
  have e : s ++ [x] = s.take k ++ (s.drop k ++ [x]) := by rw [← List.append_assoc, List.take_append_drop]
  rw [e, List.append_assoc]
  exact List.Perm.append_left _ List.perm_append_comm
end Go.Icz
namespace Go.Proofs.Ytoomhfjmcdbgkaa
open Go.RowKit Go.Icz
set_option maxRecDepth 100000 in
set_option maxHeartbeats 4000000 in
theorem RPack_no (v : Value) (l : List MV) (f mb keep now : Int) (w : World) (hR : KRm.Rd w v l) (hlen : l.length ≤ 1099511627776) (hno : packsM f mb keep = false ∨ fineM l = false) :
    Calls Try.prog 33 #[v, rulesV f mb keep, .int .i64 now] w fun e w' => e = .returned (.slice none 0 0) ∧ Below w.heap.size w w' := by
  have b1 : ∀ o, Below w.heap.size w (w.alloc o) := fun o => (Below.refl _ w).alloc (Nat.le_refl _) _
  have hF := fun w1 (hw : Below w.heap.size w w1) => RFine_is v l w1 (hR.below hw) hlen
  obtain ⟨A, c, rfl, _⟩ := hR.form
  clear hR
  have NO : ¬ (2 ≤ f ∧ f ≤ 16 ∧ 1 ≤ mb ∧ 1 ≤ keep) ∨ fineM l = false := by
    rcases hno with h | h
    · left
      unfold packsM at h
      rwa [decide_eq_false_iff_not] at h
    · exact .inr h
  clear hno
  unfold rulesV
  by_cases h0 : f < 2
  · clear NO hF
    go_enter Try.func33, Try.ntmps33
    go_wp2
    go_ret
    exact ⟨rfl, b1 _⟩
  by_cases h1 : 16 < f
  · clear NO hF
    go_enter Try.func33, Try.ntmps33
    go_wp2
    go_ret
    exact ⟨rfl, b1 _⟩
  by_cases h2 : mb < 1
  · clear NO hF
    go_enter Try.func33, Try.ntmps33
    go_wp2
    go_ret
    exact ⟨rfl, b1 _⟩
  by_cases h3 : keep < 1
  · clear NO hF
    go_enter Try.func33, Try.ntmps33
    go_wp2
    go_ret
    exact ⟨rfl, b1 _⟩
  have hf : fineM l = false := by
    rcases NO with h | h
    · exact absurd ⟨by omega, by omega, by omega, by omega⟩ h
    · exact h
  have hF1 := hF _ (b1 (.cells #[.int .i64 f, .int .i64 mb, .int .i64 keep] 55))
  rw [hf] at hF1
  clear NO hF hf
  go_enter Try.func33, Try.ntmps33
  go_wp2_with (go_at_call 14; refine hF1.mono ?_; rintro e w3 ⟨rfl, b3⟩)
  go_ret
  exact ⟨rfl, (b1 _).trans (b3.mono (b1 _).size)⟩
end Go.Proofs.Ytoomhfjmcdbgkaa
