/-
  Small facts on memory, the tables of package utf8, and append of labels. Conditions: those that each theorem names.
-/
import Derived.Test.YtnlkipgjacgddaaDoorProg
import Derived.Test.YtnlkipgjacgddaaDoorBase
import Derived.Test.YtnlkipgjacgddaaDoorShelf
import Derived.WalkKit
import Derived.ProofKit
import Derived.Outline
import Derived.Lib.OthersKept
import Derived.ScopeJumps
import Derived.WalkMore
import Derived.OwnWalk
import Derived.BigCall
namespace Go.Proofs.YtnlkipgjacgddaaDoor
open Go.RowKit Go.Icz
/-- The tables of package utf8 are in place. -/
structure Tabs (w : World) : Prop where
  utf8 : Lib.Utf8Tabs 0 1 w
theorem Tabs.below {w w' : World} (h : Tabs w) (hb : Below w.heap.size w w') : Tabs w' := by
  have c : ∀ p v, w.cell? p = some v → w'.cell? p = some v := fun p v hc => (hb.cell (World.block_lt_of_cell? w p hc)).trans hc
  exact ⟨⟨fun k hk => c _ _ (h.utf8.1 k hk), fun i hi => ⟨c _ _ (h.utf8.2 i hi).1, c _ _ (h.utf8.2 i hi).2⟩⟩⟩
theorem std : Std Tryd.prog := ⟨Tryd.underlying50, Tryd.underlying5, Tryd.underlying9, by kernel_rfl⟩
theorem held_cell {w : World} {b i : Nat} {cs : Array Value} {t : TypeId} {v : Value} (h : w.heap[b]? = some (.cells cs t (0, 0))) (hv : cs[i]? = some v) : w.cell? ⟨b, i, none⟩ = some v := by
  rw [cell_of_row _ _ _ _ _ _ h]
  exact hv
theorem held_frozen {w : World} {b i : Nat} {cs : Array Value} {t : TypeId} (h : w.heap[b]? = some (.cells cs t (0, 0))) : w.frozen? ⟨b, i, none⟩ = false := by simp [World.frozen?, h]
theorem set_cells {w : World} {b : Nat} {u v : Value} {t : TypeId} (h : w.heap[b]? = some (.cells #[u, v] t (0, 0))) (x y : Value) :
    (w.setCell ⟨b, 0, none⟩ x).cell? ⟨b, 0, none⟩ = some x ∧ ((w.setCell ⟨b, 0, none⟩ x).setCell ⟨b, 1, none⟩ y).cell? ⟨b, 1, none⟩ = some y := by
  constructor
  · simp [World.setCell, World.cell?, Array.getElem?_modify, h]
  · simp [World.setCell, World.cell?, Array.getElem?_modify, h]
theorem infoLab : (Tryd.prog.info? 39).map (fun i => (i.zero, i.size, i.bytes)) = some (some (.agg #[.string ⟨#[]⟩, .string ⟨#[]⟩]), 2, 32) := by kernel_rfl
set_option maxRecDepth 100000 in
/-- 'append(v, x...)', x labels that can be read. -/
theorem wp_appL {ops : Array Oper} {rest : List Oper} {o : Oper} {a : Act} {Q : Exit → Act → World → Prop} {w : World} (hgd : o.guard = none) (s x : Operand)
    (ho : o.op = .call { callee := .builtin .append, args := #[s, x], argTypes := #[26, 26] })
    (B : Nat) (v u : Value) (l m : List Lab) (hs : a.eval s = v) (hown : OwnL w B v l) (hx : a.eval x = u) (hr : RdL w u m)
    (hlen : (l.length + m.length) * 32 ≤ 140737488355328) (hB : B ≤ w.heap.size)
    (h : ∀ v' w', OwnL w' B v' (l ++ m) → Below B w w' → (v ≠ .slice none 0 0 → v' ≠ .slice none 0 0) → wpList Tryd.prog ops Q rest (a.put o.dst v') w') :
    wpList Tryd.prog ops Q (o :: rest) a w := by
  obtain ⟨i0, hi, hz0, hz1, hz2⟩ := info_parts infoLab
  obtain ⟨A, c, rfl, hc, hcell⟩ := hr
  rcases A with _ | ad
  · have hm : m = [] := by
      rcases Nat.eq_zero_or_pos m.length with h0 | h0
      · exact List.eq_nil_of_length_eq_zero h0
      · obtain ⟨b, off, e, _⟩ := hcell h0
        cases e
    subst hm
    refine wpList_plain hgd fun K hK => ?_
    unfold Oper.wp execOp
    have hrun : (Builtin.append_ #[26, 26] o.type #[v, .slice none 0 c]).run Tryd.prog w = .ok v w := by
      rcases hown.2 with ⟨rfl, _⟩ | ⟨g, cap, cur, rfl, _, _, hnc, _⟩
      · simp [Builtin.append_, run_underlying Tryd.underlying26, Go.sizeOf, typeInfo, hi, Builtin.lenOf, Builtin.firstCells]
      · simp [Builtin.append_, run_underlying Tryd.underlying26, Go.sizeOf, typeInfo, hi, Builtin.lenOf, Builtin.firstCells, hnc, storeCells]
    simp only [ho, resolve, invoke, builtin, Sem.run_bind, Sem.run_pure, Result.andThen_ok, List.map_toArray, List.map_cons, List.map_nil, hs, hx, List.length_nil, hrun]
    exact hK _ _ (h v w (by simpa using hown) (Below.refl _ _) (fun h => h))
  · refine wpList_append_own _ hgd s x 26 ho B 39 i0 (.agg #[.string ⟨#[]⟩, .string ⟨#[]⟩]) 2 32 Tryd.underlying26 hi hz0 hz1 hz2 rfl (by decide) v l.length (cellsL l) hs hown ad m.length c (cellsL m) hx (cellsL_len m) ?_ (cellsL_one m) ?_ hlen hB ?_
    · intro j u hu
      have hj : j < m.length * 2 := by rw [← cellsL_len]; exact (List.getElem?_eq_some_iff.1 hu).1
      obtain ⟨b, off, e, _, hcc⟩ := hcell (by omega)
      injection e with e
      subst e
      have hh := hcc (j / 2) (by omega)
      have hg := cellsL_get m (j / 2) (by omega)
      rw [add_flat]
      rcases Nat.mod_two_eq_zero_or_one j with e2 | e2
      · rw [show j = j / 2 * 2 by omega] at hu ⊢
        rw [hg.1] at hu
        rw [← hu]
        exact hh.1
      · rw [show j = j / 2 * 2 + 1 by omega] at hu ⊢
        rw [hg.2] at hu
        rw [← hu, ← Nat.add_assoc]
        exact hh.2
    · unfold maxLen; omega
    · intro v' w' h1 h2 h3
      refine h v' w' (by unfold OwnL; rw [cellsL_app, List.length_append]; exact h1) ((Below.refl B w).grown h2 hB (fun k hk => (World.ownsRow.lt hown k hk).1)) (fun hv e => hv (h3.1 e).1)
theorem OwnL.made (w : World) {B : Nat} (hB : B ≤ w.heap.size) : OwnL (w.alloc (.cells #[] 39)) B (.slice (some ⟨w.heap.size, 0, none⟩) 0 0) [] :=
  World.ownsRow_made w #[] 0 hB (by decide) rfl
end Go.Proofs.YtnlkipgjacgddaaDoor
