/-
  Facts for LabelOne: pieces of a list that can be read; one sorted list. Conditions: those that each theorem names.
-/
import Derived.Test.YtjgkceciokhhpaaGreatDoorKnow
import Derived.Test.YtjgkceciokhhpaaGreatDoorCmp
import Derived.Test.YtjgkceciokhhpaaGreatDoorRefCmp
import Derived.Test.YtjgkceciokhhpaaGreatDoorWrite
import Derived.Test.YtjgkceciokhhpaaGreatDoorPrint
import Derived.Test.YtjgkceciokhhpaaGreatDoorOrder
namespace Go.Proofs.YtjgkceciokhhpaaGreatDoor
open Go.RowKit Go.Icz

theorem sub_drop {w : World} {b off : Nat} {l : List Lab} {c : Nat} (k : Nat) (hk : k < l.length) (hb : b < w.heap.size)
    (hc : ∀ j (hj : j < l.length), w.cell? ⟨b, off + j * 2, none⟩ = some (.string ⟨(l[j]).1.toArray⟩) ∧ w.cell? ⟨b, off + j * 2 + 1, none⟩ = some (.string ⟨(l[j]).2.toArray⟩)) (hlc : l.length ≤ c) :
    RdL w (.slice (some ⟨b, off + k * 2, none⟩) (l.length - k) (c - k)) (l.drop k) := by
  refine ⟨_, c - k, by rw [List.length_drop], by rw [List.length_drop]; omega, fun _ => ⟨b, off + k * 2, rfl, hb, fun j hj => ?_⟩⟩
  rw [List.length_drop] at hj
  have h := hc (k + j) (by omega)
  rw [Nat.add_mul, ← Nat.add_assoc] at h
  rw [List.getElem_drop]
  exact h
theorem sub_take {w : World} {b off : Nat} {l : List Lab} {c : Nat} (k : Nat) (hk : k < l.length) (hb : b < w.heap.size)
    (hc : ∀ j (hj : j < l.length), w.cell? ⟨b, off + j * 2, none⟩ = some (.string ⟨(l[j]).1.toArray⟩) ∧ w.cell? ⟨b, off + j * 2 + 1, none⟩ = some (.string ⟨(l[j]).2.toArray⟩)) (hlc : l.length ≤ c) :
    RdL w (.slice (some ⟨b, off, none⟩) k c) (l.take k) := by
  have hl : (l.take k).length = k := by rw [List.length_take]; omega
  refine ⟨_, c, by rw [hl], by omega, fun _ => ⟨b, off, rfl, hb, fun j hj => ?_⟩⟩
  have h := hc j (by omega)
  rw [List.getElem_take]
  exact h
theorem OwnL_one (w : World) {B : Nat} (x : Lab) (hB : B ≤ w.heap.size) : OwnL (w.alloc (.cells #[.string ⟨x.1.toArray⟩, .string ⟨x.2.toArray⟩] 57)) B (.slice (some ⟨w.heap.size, 0, none⟩) 1 1) [x] :=
  World.ownsRow_lit w #[.string ⟨x.1.toArray⟩, .string ⟨x.2.toArray⟩] 1 hB (by decide) rfl
theorem chain_lt : ∀ (l : List Lab) (p : Option B8), chain p l = true → (∀ q, p = some q → ∀ x ∈ l, Lib.compareBytes q x.1 < 0) ∧ l.Pairwise (fun x y => Lib.compareBytes x.1 y.1 < 0)
  | [], p, _ => ⟨fun q _ x hx => (by simp at hx), List.Pairwise.nil⟩
  | y :: t, p, h => by
    simp only [chain, Bool.and_eq_true] at h
    obtain ⟨h1, h2⟩ := chain_lt t (some y.1) h.2
    refine ⟨fun q hq x hx => ?_, List.pairwise_cons.2 ⟨fun x hx => h1 y.1 rfl x hx, h2⟩⟩
    have h3 : Lib.compareBytes q y.1 < 0 := by
      have h9 := h.1.2
      rw [hq] at h9
      simpa [less_iff] using h9
    rcases List.mem_cons.1 hx with rfl | hx
    · exact h3
    · have h4 := h1 y.1 rfl x hx
      have h5 := bytesCmp.le q y.1 x.1 (by omega) (by omega)
      have h6 : Lib.compareBytes q x.1 ≠ 0 := fun e => by
        have e2 := (bytesCmp.eq _ _).1 e
        have h7 := bytesCmp.neg q y.1
        rw [← e2] at h4
        omega
      omega
/-- Sorted lists of the same labels are one, where the names differ. -/
theorem sorted_one {l l' d d' : List Lab} (hr : rightS d = true) (hd : Sorts l d) (hd' : Sorts l' d') (hp : l'.Perm l) : d' = d := by
  have hc : chain none d = true := by
    simp only [rightS, Bool.and_eq_true] at hr
    exact hr.2
  have hlt := (chain_lt d none hc).2
  have hperm : d'.Perm d := hd'.1.trans (hp.trans hd.1.symm)
  have names : ∀ x ∈ d, ∀ y ∈ d, Lib.compareBytes x.1 y.1 = 0 → x = y := by
    intro x hx y hy e
    obtain ⟨i, hi, rfl⟩ := List.getElem_of_mem hx
    obtain ⟨j, hj, rfl⟩ := List.getElem_of_mem hy
    rw [List.pairwise_iff_getElem] at hlt
    rcases Nat.lt_trichotomy i j with h | h | h
    · have := hlt i j hi hj h; omega
    · subst h; rfl
    · have h1 := hlt j i hj hi h
      have := bytesCmp.neg (d[i]).1 (d[j]).1
      omega
  refine List.Perm.eq_of_pairwise (le := fun x y => ¬ Lib.compareBytes y.1 x.1 < 0) (fun a b ha hb h1 h2 => ?_) hd'.2 hd.2 hperm
  refine names a (hperm.subset ha) b hb ?_
  have := bytesCmp.neg a.1 b.1
  omega
set_option maxRecDepth 100000 in
/-- 'append(v, x...)' at a step of a region that draws its order. -/
theorem step_appL {ops : Array Oper} {o : Oper} {a : Act} {K : Act → World → Prop} {Q : Exit → Act → World → Prop} {E : Prop} {w : World} (hgd : o.guard = none) (s x : Operand)
    (ho : o.op = .call { callee := .builtin .append, args := #[s, x], argTypes := #[22, 22] })
    (B : Nat) (v u : Value) (l m : List Lab) (hs : a.eval s = v) (hown : OwnL w B v l) (hx : a.eval x = u) (hr : RdL w u m)
    (hlen : (l.length + m.length) * 32 ≤ 140737488355328) (hB : B ≤ w.heap.size)
    (h : ∀ v' w', OwnL w' B v' (l ++ m) → Below B w w' → K (a.put o.dst v') w') :
    if Region.wanted o (yielded ops a.tmps) = true then Oper.wp Tryz.prog o a w K Q else E := by
  have hw : Region.wanted o (yielded ops a.tmps) = true := by simp [Region.wanted, hgd]
  rw [if_pos hw]
  obtain ⟨i0, hi, hz0, hz1, hz2⟩ := info_parts info57
  obtain ⟨A, c, rfl, hc, hcell⟩ := hr
  rcases A with _ | ad
  · have hm : m = [] := by
      rcases Nat.eq_zero_or_pos m.length with h0 | h0
      · exact List.eq_nil_of_length_eq_zero h0
      · obtain ⟨b, off, e, _⟩ := hcell h0
        cases e
    subst hm
    unfold Oper.wp execOp
    have hrun : (Builtin.append_ #[22, 22] o.type #[v, .slice none 0 c]).run Tryz.prog w = .ok v w := by
      rcases hown.2 with ⟨rfl, _⟩ | ⟨g, cap, cur, rfl, _, _, hnc, _⟩
      · simp [Builtin.append_, run_underlying Tryz.underlying22, Go.sizeOf, typeInfo, hi, Builtin.lenOf, Builtin.firstCells]
      · simp [Builtin.append_, run_underlying Tryz.underlying22, Go.sizeOf, typeInfo, hi, Builtin.lenOf, Builtin.firstCells, hnc, storeCells]
    simp only [ho, resolve, invoke, builtin, Sem.run_bind, Sem.run_pure, Result.andThen_ok, List.map_toArray, List.map_cons, List.map_nil, hs, hx, List.length_nil, hrun]
    exact h v w (by simpa using hown) (Below.refl _ _)
  · refine wp_append_own _ s x 22 ho B 57 i0 (.agg #[.string ⟨#[]⟩, .string ⟨#[]⟩]) 2 32 Tryz.underlying22 hi hz0 hz1 hz2 rfl (by decide) v l.length (cellsL l) hs hown ad m.length c (cellsL m) hx (cellsL_len m) ?_ (cellsL_one m) ?_ hlen hB ?_
    · intro j u hu
      have hj : j < m.length * 2 := by rw [← cellsL_len]; exact (List.getElem?_eq_some_iff.1 hu).1
      obtain ⟨b, off, e, _, hcc⟩ := hcell (by omega)
      injection e with e
      subst e
      have hh := hcc (j / 2) (by omega)
      have hg := cellsL_get m (j / 2) (by omega)
      rw [add_flat]
      rcases Nat.mod_two_eq_zero_or_one j with e2 | e2
      · rw [show j = j / 2 * 2 by omega] at hu ⊢
        rw [hg.1] at hu
        rw [← hu]
        exact hh.1
      · rw [show j = j / 2 * 2 + 1 by omega] at hu ⊢
        rw [hg.2] at hu
        rw [← hu, ← Nat.add_assoc]
        exact hh.2
    · unfold maxLen; omega
    · intro v' w' h1 h2 _
      exact h v' w' (by unfold OwnL; rw [cellsL_app, List.length_append]; exact h1) ((Below.refl B w).grown h2 hB (fun k hk => (World.ownsRow.lt hown k hk).1))
/-- A list of the same labels, sorted: the same answer. -/
theorem sort_same {l m d : List Lab} (hr : rightS d = true) (hd : Sorts l d) (hp : m.Perm l) (hz : ∀ x ∈ l, x.1.length ≤ 9223372036854775807 ∧ x.2.length ≤ 9223372036854775807) (u : Value) (w : World) (g : RdL w u m) (hT : Tabs w) :
    Calls Tryz.prog 12 #[u] w fun e w' => ∃ v, e = .returned (.tuple #[v, .int .i64 0]) ∧ RdL w' v d ∧ Below w.heap.size w w' := by
  refine (Sort_is u m w g hT (fun x hx => hz x (hp.subset hx))).mono ?_
  rintro e w' ⟨h | ⟨d', hd', ⟨_, v, rfl, hv⟩ | ⟨hr', _⟩⟩, hb⟩
  · exfalso
    have h1 := hp.length_eq
    have h2 := hd.1.length_eq
    have h3 : d.length ≤ 16 := by
      simp only [rightS, Bool.and_eq_true, decide_eq_true_eq] at hr
      exact hr.1.2
    omega
  · rw [sorted_one hr hd hd' hp] at hv
    exact ⟨v, rfl, hv, hb⟩
  · rw [sorted_one hr hd hd' hp, hr] at hr'
    cases hr'
theorem same_self (v1 v2 : Value) (d : List Lab) (w : World) (h1 : RdL w v1 d) (h2 : RdL w v2 d) (hm : d.length ≤ 16) : Calls Tryz.prog 22 #[v1, v2] w fun e w' => e = .returned (.bool true) ∧ Below w.heap.size w w' := by
  refine (Same_is v1 v2 d d w h1 h2 (by omega)).mono ?_
  rintro e w' ⟨rfl, hb⟩
  exact ⟨by simp, hb⟩
theorem cmp_self (v1 v2 : Value) (d : List Lab) (w : World) (h1 : RdL w v1 d) (h2 : RdL w v2 d) (hm : d.length ≤ 16) : Calls Tryz.prog 25 #[v1, v2] w fun e w' => e = .returned (.int .i64 0) ∧ Below w.heap.size w w' := by
  refine (Compare_is v1 v2 d d w h1 h2 (by omega) (by omega)).mono ?_
  rintro e w' ⟨rfl, hb⟩
  exact ⟨by rw [(listCmp.eq d d).2 rfl], hb⟩
theorem print_head {d : List Lab} (hr : rightS d = true) : ∃ t, printS d = 123 :: t := by
  unfold printS
  rw [if_pos hr]
  exact ⟨_, rfl⟩
end Go.Proofs.YtjgkceciokhhpaaGreatDoor
