/-
  What the reference's Bytes of a number, of a text, of labels answer: bytes in new memory. Conditions: those that each theorem names.
-/
import Derived.Test.YtaoeabnpmpimgaaDoorWrite
import Derived.Test.YtaoeabnpmpimgaaDoorRefRight
import Derived.Deep.RegionHeld3
namespace Go.Proofs.YtaoeabnpmpimgaaDoor
open Go.RowKit Go.Icz
/-- Bytes in new memory, bare. -/
def Bare (w : World) (l : List Nat) (e : Ending) (w' : World) : Prop :=
  ∃ v, e = .returned v ∧ Own w' w.heap.size v l ∧ Below w.heap.size w w'
set_option maxRecDepth 100000 in
/-- 'append(v, x...)' of bytes, at a step of a region. -/
theorem step_appR {ops : Array Oper} {o : Oper} {a : Act} {K : Act → World → Prop} {Q : Exit → Act → World → Prop} {E : Prop} {w : World} (hgd : o.guard = none) (s x : Operand)
    (ho : o.op = .call { callee := .builtin .append, args := #[s, x], argTypes := #[66, 66] })
    (B : Nat) (v u : Value) (l m : List Nat) (hs : a.eval s = v) (hown : Own w B v l) (hx : a.eval x = u) (hr : Rd w u m)
    (hlen : l.length + m.length ≤ 140737488355328) (hB : B ≤ w.heap.size)
    (h : ∀ v' w', Own w' B v' (l ++ m) → Below B w w' → K (a.put o.dst v') w') :
    if Region.wanted o (yielded ops a.tmps) = true then Oper.wp Tryd.prog o a w K Q else E := by
  have hw : Region.wanted o (yielded ops a.tmps) = true := by simp [Region.wanted, hgd]
  rw [if_pos hw]
  obtain ⟨i0, hi, hz0, hz1, hz2⟩ := info_parts std.i5
  obtain ⟨A, c, rfl, hc, hcell⟩ := hr
  rcases A with _ | ad
  · have hm : m = [] := by
      rcases Nat.eq_zero_or_pos m.length with h0 | h0
      · exact List.eq_nil_of_length_eq_zero h0
      · obtain ⟨b, off, e, _⟩ := hcell h0
        cases e
    subst hm
    unfold Oper.wp execOp
    have hrun : (Builtin.append_ #[66, 66] o.type #[v, .slice none 0 c]).run Tryd.prog w = .ok v w := by
      rcases hown.2 with ⟨rfl, _⟩ | ⟨g, cap, cur, rfl, _, _, hnc, _⟩
      · simp [Builtin.append_, run_underlying std.u45, Go.sizeOf, typeInfo, hi, Builtin.lenOf, Builtin.firstCells]
      · simp [Builtin.append_, run_underlying std.u45, Go.sizeOf, typeInfo, hi, Builtin.lenOf, Builtin.firstCells, hnc, storeCells]
    simp only [ho, resolve, invoke, builtin, Sem.run_bind, Sem.run_pure, Result.andThen_ok, List.map_toArray, List.map_cons, List.map_nil, hs, hx, List.length_nil, hrun]
    exact h v w (by simpa using hown) (Below.refl _ _)
  · refine wp_append_own _ s x 66 ho B 5 i0 (.int .u8 0) 1 1 std.u45 hi hz0 hz1 hz2 rfl (by decide) v l.length (cellsB l) hs hown ad m.length c (cellsB m) hx (by rw [cellsB_len]; omega) ?_ (cellsB_one m) ?_ (by omega) hB ?_
    · intro j u hj
      obtain ⟨hj', rfl⟩ := cellsB_get hj
      obtain ⟨b, off, e, _, hc'⟩ := hcell (by omega)
      injection e with e
      subst e
      rw [add_flat]
      exact hc' j hj'
    · unfold maxLen; omega
    · intro v' w' h1 h2 _
      exact h v' w' (by unfold Own; rw [cellsB_app, List.length_append]; exact h1) ((Below.refl B w).grown h2 hB (fun k hk => (World.ownsRow.lt hown k hk).1))
theorem right_lens {l : List Lab} (hr : rightS l = true) : l.length ≤ 16 ∧ ∀ x ∈ l, x.1.length ≤ 128 ∧ x.2.length ≤ 128 := by
  obtain ⟨h16, hal⟩ := right_all hr
  exact ⟨by simp only [rightS, Bool.and_eq_true, decide_eq_true_eq] at hr; omega, fun x hx => by have := hal x hx; omega⟩
/-- The bytes of labels that may be; an error else. -/
def BytesOut (l : List Lab) (w : World) (e : Ending) (w' : World) : Prop :=
  ∃ v, e = .returned (.tuple #[v, .int .i64 (if rightS l = true then 0 else 30)]) ∧ Rd w' v (if rightS l = true then bytesN l else []) ∧ Below w.heap.size w w'
set_option maxRecDepth 100000 in
theorem LBytes_any (v : Value) (l : List Lab) (w : World) (hR : RdL w v l) (hT : Tabs w) (hsz : ∀ x ∈ l, x.1.length ≤ 9223372036854775807 ∧ x.2.length ≤ 9223372036854775807) :
    Calls Tryd.prog 53 #[v] w (BytesOut l w) := by
  cases hr : rightS l with
  | true =>
    refine (Bytes_is v l w hR hT hr).mono ?_
    rintro e w' ⟨u, rfl, o, b⟩
    unfold BytesOut
    rw [hr, if_pos rfl, if_pos rfl]
    exact ⟨u, rfl, o.rd, b⟩
  | false =>
    have hRt := Right_is v l w hR hT hsz
    have HR := hid hr
    rw [hr] at hRt
    clear hr hsz
    go_enter Tryd.func53, Tryd.ntmps53
    go_wp2_with (go_at_call 40; refine hRt.mono ?_; rintro e w1 ⟨rfl, b1⟩; clear hRt)
    go_ret2
    unfold BytesOut
    rw [HR.out, if_neg (by decide), if_neg (by decide)]
    exact ⟨_, rfl, Rd.nil _, b1⟩
end Go.Proofs.YtaoeabnpmpimgaaDoor
