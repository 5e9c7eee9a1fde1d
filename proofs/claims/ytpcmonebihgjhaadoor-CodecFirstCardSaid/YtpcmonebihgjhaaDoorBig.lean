/-
  'append(v, x...)' onto a row of one's own where both together pass 2^47 bytes: Go's own growth still fits. Conditions: those that the theorem names.
-/
import Derived.Test.YtpcmonebihgjhaaDoorBase
namespace Go.Icy
open Go.RowKit
theorem grows_little {need old : Nat} (h : old < need) : Builtin.nextslicecap need old ≤ need + need / 4 + 512 := by
  unfold Builtin.nextslicecap
  split
  · omega
  · split
    · omega
    · rw [growBy_four]
      repeat' split
      all_goals omega
section
variable {P : Program} (S : Std P)
include S
/-- 'append(v, x...)' onto a row of one's own that is not nil, up to 1.75 * 10^14 bytes together. -/
theorem wp_appBig {ops : Array Oper} {rest : List Oper} {o : Oper} {a : Act} {Q : Exit → Act → World → Prop} {w : World} (hgd : o.guard = none) (s x : Operand)
    (ho : o.op = .call { callee := .builtin .append, args := #[s, x], argTypes := #[22, 22] })
    (B : Nat) (v u : Value) (l m : List Nat) (hs : a.eval s = v) (hown : Own w B v l) (hx : a.eval x = u) (hr : Rd w u m)
    (hmax : m.length ≤ 140737488355328) (hlmax : l.length ≤ 140737488355328) (hlen : l.length + m.length ≤ 175000000000000) (hB : B ≤ w.heap.size)
    (h : ∀ v' w', Own w' B v' (l ++ m) → Below B w w' → wpList P ops Q rest (a.put o.dst v') w') :
    wpList P ops Q (o :: rest) a w := by
  by_cases hsmall : l.length + m.length ≤ 140737488355328
  · exact wp_appR S hgd s x ho B v u l m hs hown hx hr hsmall hB h
  · obtain ⟨i0, hi, hz0, hz1, hz2⟩ := info_parts S.i5
    obtain ⟨g, cap, rfl, hg, hg2, hcap, hcell⟩ := hown.form (by omega)
    obtain ⟨A, c, rfl, hc, hcm⟩ := hr
    obtain ⟨b, off, rfl, _, hcm⟩ := hcm (by omega)
    have hl1 : (cellsB m).length = m.length * i0.size := by rw [cellsB_len, hz1, Nat.mul_one]
    have hl0 : (cellsB l).length = l.length * i0.size := by rw [cellsB_len, hz1, Nat.mul_one]
    have hnews : ∀ j q, (cellsB m)[j]? = some q → w.cell? ((⟨b, off, none⟩ : Addr).add j) = some q := by
      intro j q hj
      obtain ⟨hj', rfl⟩ := cellsB_get hj
      rw [add_flat]
      exact hcm j hj'
    have holds : ∀ j q, (cellsB l)[j]? = some q → w.cell? ((⟨g, 0, none⟩ : Addr).add j) = some q := by
      intro j q hj
      obtain ⟨hj', rfl⟩ := cellsB_get hj
      rw [add_flat, Nat.zero_add]
      exact hcell j hj'
    have done : ∀ v' w', (Builtin.append_ #[22, 22] o.type #[.slice (some ⟨g, 0, none⟩) l.length cap, .slice (some ⟨b, off, none⟩) m.length c]).run P w = .ok v' w' → Own w' B v' (l ++ m) → Below B w w' → wpList P ops Q (o :: rest) a w := by
      intro v' w' hrun h1 h2
      refine wpList_plain hgd fun K hK => ?_
      unfold Oper.wp execOp
      simp only [ho, resolve, invoke, builtin, Sem.run_bind, Sem.run_pure, Result.andThen_ok, List.map_toArray, List.map_cons, List.map_nil, hs, hx, hrun]
      exact hK _ _ (h v' w' h1 h2)
    by_cases hroom : l.length + m.length ≤ cap
    · rcases hown.2 with ⟨hv, _⟩ | ⟨g', cap', cur, hv, hg', hh, hnc, hcmx, hcs, htake⟩
      · cases hv
      · injection hv with hv _ hcap'
        injection hv with hv
        injection hv with hv
        subst hv hcap'
        have hfit : l.length * i0.size + (cellsB m).length ≤ cur.size := by rw [hl1, hz1, hcs]; omega
        have hr := run_append_room (P := P) w 22 o.type 5 i0 S.u22 hi g l.length cap cur hh ⟨b, off, none⟩ m.length c (cellsB m) hl1 hnews (cellsB_one m) hroom hfit
        refine done _ _ hr ?_ ?_
        · refine ⟨by rw [cellsB_len, Nat.mul_one], .inr ⟨g, cap, _, by rw [List.length_append], hg, setRow_heap w g cur _ 5 _ hh, by rw [List.length_append]; exact hroom, hcmx, ?_, ?_⟩⟩
          · rw [hl1, hz1] at hfit
            simp only [hz1, Nat.mul_one, List.size_toArray, List.length_append, List.length_take, List.length_drop, Array.length_toList, cellsB_len]
            omega
          · simp only [hz1, Nat.mul_one] at htake ⊢
            rw [htake, cellsB_app, ← cellsB_len (l ++ m), cellsB_app]
            exact List.take_left
        · exact ⟨rfl, rfl, rfl, by simp, fun k hk => setRow_other w g k _ (by omega)⟩
    · have hlm : l.length + m.length ≤ maxLen := by unfold maxLen; omega
      have hge := grownCap_ge w (l.length + m.length) cap 5
      have hcm2 := grownCap_le_maxLen w (l.length + m.length) cap 5 hlm
      have hr := run_append_grow (P := P) w 22 o.type 5 i0 (.int .u8 0) S.u22 hi hz0 ⟨g, 0, none⟩ l.length cap (cellsB l) hl0 holds ⟨b, off, none⟩ m.length c (cellsB m) hl1 hnews (by omega) (by omega)
        (by rw [hz2, Nat.mul_one]; have := grows_little (need := l.length + m.length) (old := cap) (by omega); omega)
      refine done _ _ hr ?_ ?_
      · refine ⟨by rw [cellsB_len, Nat.mul_one], .inr ⟨w.heap.size, _, _, by rw [List.length_append], hB, heap_alloc_new w.drew _, by rw [List.length_append]; exact hge, hcm2, ?_, ?_⟩⟩
        · simp only [Array.size_append, List.size_toArray, size_zeroCells, cellsB_len, Nat.mul_one]
          have : (Value.int IntKind.u8 0).cells.size = 1 := rfl
          rw [this]
          omega
        · simp only [Array.toList_append, Nat.mul_one]
          rw [← cellsB_len (l ++ m), cellsB_app]
          exact List.take_left
      · exact ⟨rfl, rfl, rfl, by simp, fun k hk => heap_alloc_old w.drew _ (Nat.lt_of_lt_of_le hk hB)⟩
end
end Go.Icy
