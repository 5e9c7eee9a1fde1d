/-
  What slices.Clone of entries and of labels, slices.SortStableFunc and record.Sort answer. Conditions: the entries can be read; sizes as each theorem names.
-/
import Derived.Test.YtcdfjkhjdiojbaaDoorStabF
import Derived.Test.YtcdfjkhjdiojbaaDoorEntAll
import Derived.Shelf.SlGeneric
import Derived.Shelf.SlicesE.Clone
import Derived.Ground.SlgnProg
import Derived.Deep.AppendLies
import Derived.Deep.SlicePairs
namespace Go.Proofs
open Go.Shelf
def Tryd.cloneE_ren : Go.Shelf.Ren := ⟨fun | 41 => 25 | n => n, fun | 22 => 22 | 23 => 27 | 4 => 4 | n => n, fun | n => n⟩
theorem Tryd.cloneE : Go.Proofs.SlLaysE0.n41 Tryd.prog Tryd.cloneE_ren := {
  mixed := by kernel_rfl
  f41 := ⟨Tryd.f25.name, by decide, Tryd.func25.trans (congrArg some (by kernel_rfl))⟩
  t4 := Tryd.underlying4
  a4 := Tryd.isAgg4
  z4 := Tryd.sizeOf4
  v4 := Tryd.zeroValue4
  t22 := Tryd.underlying22
  a22 := Tryd.isAgg22
  z22 := Tryd.sizeOf22
  v22 := Tryd.zeroValue22 }
def Tryd.cloneLb_ren : Go.Shelf.Ren := ⟨fun | 41 => 26 | n => n, fun | 22 => 25 | 23 => 58 | 4 => 4 | n => n, fun | n => n⟩
theorem Tryd.cloneLb : Go.Proofs.SlLaysE0.n41 Tryd.prog Tryd.cloneLb_ren := {
  mixed := by kernel_rfl
  f41 := ⟨Tryd.f26.name, by decide, Tryd.func26.trans (congrArg some (by kernel_rfl))⟩
  t4 := Tryd.underlying4
  a4 := Tryd.isAgg4
  z4 := Tryd.sizeOf4
  v4 := Tryd.zeroValue4
  t22 := Tryd.underlying25
  a22 := Tryd.isAgg25
  z22 := Tryd.sizeOf25
  v22 := Tryd.zeroValue25 }
end Go.Proofs
namespace Go.Icz
open Go.RowKit
def evV (p : EV) : Ent × Value := (p.1, .slice p.2.1 p.1.labs.length p.2.2)
/-- The cells of a row of entries, labels where they lie. -/
def cellsV (X : List EV) : List Value := cellsM (X.map evV)
theorem cellsV_len (X : List EV) : (cellsV X).length = X.length * 4 := by unfold cellsV; rw [cellsM_len, List.length_map]
theorem cellsV_app (X Y : List EV) : cellsV (X ++ Y) = cellsV X ++ cellsV Y := by unfold cellsV; rw [List.map_append, cellsM_app]
theorem cellsV_get (X : List EV) (j : Nat) (hj : j < X.length) : (cellsV X)[j * 4]? = some (.int .i64 (X[j]).1.seq) ∧ (cellsV X)[j * 4 + 1]? = some (.int .i64 (X[j]).1.time) ∧ (cellsV X)[j * 4 + 2]? = some (.slice (X[j]).2.1 (X[j]).1.labs.length (X[j]).2.2) ∧ (cellsV X)[j * 4 + 3]? = some (.string ⟨(X[j]).1.line.toArray⟩) := by
  have h := cellsM_get (X.map evV) j (by rw [List.length_map]; exact hj)
  simp only [List.getElem_map] at h
  exact h
theorem cellsV_one (X : List EV) : ∀ u ∈ cellsV X, u.oneCell' = true := by
  intro u hu
  unfold cellsV cellsM at hu
  rw [List.mem_flatMap] at hu
  obtain ⟨p, hp, hu⟩ := hu
  obtain ⟨q, hq, rfl⟩ := List.mem_map.1 hp
  simp [evV] at hu
  rcases hu with rfl | rfl | rfl | rfl <;> rfl
/-- The labels of an entry can be read, and do not lie in block g. -/
def LabAt (w : World) (g : Nat) (p : EV) : Prop := ∃ b0, (0 < p.1.labs.length → b0 ≠ g ∧ ∃ off, p.2.1 = some ⟨b0, off, none⟩) ∧ RdL w (.slice p.2.1 p.1.labs.length p.2.2) p.1.labs
/-- The slice v reads as the entries X, labels where they lie. -/
def RdV (w : World) (v : Value) (X : List EV) : Prop :=
  ∃ A c, v = .slice A X.length c ∧ X.length ≤ c ∧ (0 < X.length → ∃ b off, A = some ⟨b, off, none⟩ ∧ b < w.heap.size ∧
    ∀ j (hj : j < X.length), w.cell? ⟨b, off + j * 4, none⟩ = some (.int .i64 (X[j]).1.seq) ∧ w.cell? ⟨b, off + j * 4 + 1, none⟩ = some (.int .i64 (X[j]).1.time) ∧ w.cell? ⟨b, off + j * 4 + 2, none⟩ = some (.slice (X[j]).2.1 (X[j]).1.labs.length (X[j]).2.2) ∧ w.cell? ⟨b, off + j * 4 + 3, none⟩ = some (.string ⟨(X[j]).1.line.toArray⟩))
theorem RdV.below {w w' : World} {v : Value} {X : List EV} (h : RdV w v X) (hb : Below w.heap.size w w') : RdV w' v X := by
  obtain ⟨A, c, hv, hc, hr⟩ := h
  refine ⟨A, c, hv, hc, fun h0 => ?_⟩
  obtain ⟨b, off, hA, hlt, hcell⟩ := hr h0
  refine ⟨b, off, hA, Nat.lt_of_lt_of_le hlt hb.size, fun j hj => ?_⟩
  obtain ⟨h0, h1, h2, h3⟩ := hcell j hj
  exact ⟨(hb.cell (p := ⟨b, off + j * 4, none⟩) hlt).trans h0, (hb.cell (p := ⟨b, off + j * 4 + 1, none⟩) hlt).trans h1, (hb.cell (p := ⟨b, off + j * 4 + 2, none⟩) hlt).trans h2, (hb.cell (p := ⟨b, off + j * 4 + 3, none⟩) hlt).trans h3⟩
/-- Entries that can be read, with their labels' places named. -/
theorem RdE.places {w : World} {v : Value} {l : List Ent} (h : RdE w v l) : ∃ X : List EV, X.map (·.1) = l ∧ RdV w v X ∧ ∀ p ∈ X, RdL w (.slice p.2.1 p.1.labs.length p.2.2) p.1.labs := by
  obtain ⟨A, c, rfl, hc, hr⟩ := h
  rcases Nat.eq_zero_or_pos l.length with h0 | h0
  · obtain rfl : l = [] := List.eq_nil_of_length_eq_zero h0
    exact ⟨[], rfl, ⟨A, c, rfl, by simp, fun h => absurd h (by simp)⟩, by simp⟩
  · obtain ⟨b, off, rfl, hlt, hcell⟩ := hr h0
    have each : ∀ i, i < l.length → ∃ y : EV, l[i]? = some y.1 ∧ w.cell? ⟨b, off + i * 4, none⟩ = some (.int .i64 y.1.seq) ∧ w.cell? ⟨b, off + i * 4 + 1, none⟩ = some (.int .i64 y.1.time) ∧ w.cell? ⟨b, off + i * 4 + 2, none⟩ = some (.slice y.2.1 y.1.labs.length y.2.2) ∧ w.cell? ⟨b, off + i * 4 + 3, none⟩ = some (.string ⟨y.1.line.toArray⟩) ∧ RdL w (.slice y.2.1 y.1.labs.length y.2.2) y.1.labs := by
      intro i hi
      obtain ⟨A', c', h0, h1, h2, h3, h4⟩ := hcell i hi
      exact ⟨(l[i], A', c'), List.getElem?_eq_getElem hi, h0, h1, h2, h3, h4⟩
    haveI : Inhabited EV := ⟨(⟨0, 0, [], []⟩, none, 0)⟩
    obtain ⟨Y, hY⟩ := Go.Deep.choose_lt each
    have hlen : ((List.range l.length).map Y).length = l.length := by simp
    refine ⟨(List.range l.length).map Y, ?_, ⟨_, c, by rw [hlen], by rw [hlen]; exact hc, fun _ => ⟨b, off, rfl, hlt, fun j hj => ?_⟩⟩, fun p hp => ?_⟩
    · apply List.ext_getElem?
      intro i
      rw [List.map_map, List.getElem?_map]
      rcases Nat.lt_or_ge i l.length with hi | hi
      · rw [List.getElem?_range hi, (hY i hi).1]; rfl
      · rw [List.getElem?_eq_none hi, List.getElem?_eq_none (by simpa using hi)]; rfl
    · rw [hlen] at hj
      have h := (hY j hj).2
      simp only [List.getElem_map, List.getElem_range]
      exact ⟨h.1, h.2.1, h.2.2.1, h.2.2.2.1⟩
    · obtain ⟨i, hi, rfl⟩ := List.mem_map.1 hp
      exact (hY i (List.mem_range.1 hi)).2.2.2.2.2
theorem LabAt.below {w w' : World} {g : Nat} {p : EV} (h : LabAt w g p) (hb : Below w.heap.size w w') : LabAt w' g p := by
  obtain ⟨b0, h1, h2⟩ := h
  exact ⟨b0, h1, h2.below hb⟩
theorem LabAt.grown {w w' : World} {g : Nat} {p : EV} (h : LabAt w g p) (hg : w.grownBy w' (some g)) : LabAt w' g p := by
  obtain ⟨b0, h1, A, c, hv, hc, hr⟩ := h
  injection hv with e1 e2 e3
  refine ⟨b0, h1, A, c, by rw [e1, e3], hc, fun h0 => ?_⟩
  obtain ⟨hne, off0, hA0⟩ := h1 h0
  obtain ⟨b, off, hA, hlt, hcell⟩ := hr h0
  rw [e1, hA] at hA0
  injection hA0 with hA0
  injection hA0 with q1 _
  subst q1
  refine ⟨b, off, hA, Nat.lt_of_lt_of_le hlt hg.size, fun j hj => ?_⟩
  have hne' : some b ≠ some g := fun e => hne (by injection e)
  exact ⟨(hg.cell_far ⟨b, off + j * 2, none⟩ hlt hne').trans (hcell j hj).1, (hg.cell_far ⟨b, off + j * 2 + 1, none⟩ hlt hne').trans (hcell j hj).2⟩
theorem RdL.labAt {w : World} {g : Nat} {p : EV} (h : RdL w (.slice p.2.1 p.1.labs.length p.2.2) p.1.labs) (hg : w.heap.size ≤ g) : LabAt w g p := by
  obtain ⟨A, c, hv, hc, hr⟩ := id h
  injection hv with e1 e2 e3
  rcases Nat.eq_zero_or_pos p.1.labs.length with h0 | h0
  · exact ⟨0, fun h1 => by omega, h⟩
  · obtain ⟨b, off, hA, hlt, _⟩ := hr h0
    exact ⟨b, fun _ => ⟨by omega, off, by rw [e1, hA]⟩, h⟩
/-- A row of entries in a block of its own, whose labels can be read. -/
theorem RowE.rdE {w : World} {b cap : Nat} {X : List EV} (h : RowE w b X) (hc : X.length ≤ cap) (hl : ∀ p ∈ X, LabAt w b p) : RdE w (.slice (some ⟨b, 0, none⟩) X.length cap) (X.map (·.1)) := by
  refine ⟨_, cap, by rw [List.length_map], by rw [List.length_map]; exact hc, fun _ => ⟨b, 0, rfl, h.1, fun j hj => ?_⟩⟩
  rw [List.length_map] at hj
  obtain ⟨c0, c1, c2, c3, -, -, -, -⟩ := h.2 j hj
  obtain ⟨_, _, hr⟩ := hl X[j] (List.getElem_mem hj)
  simp only [List.getElem_map, Nat.zero_add]
  exact ⟨_, _, c0, c1, c2, c3, hr⟩
theorem RowE.putLab {w : World} {b : Nat} {X : List EV} (h : RowE w b X) (k : Nat) (hk : k < X.length) (A : Option Addr) (c : Nat) :
    RowE (w.setCell ⟨b, k * 4 + 2, none⟩ (.slice A (X[k]).1.labs.length c)) b (X.set k ((X[k]).1, A, c)) := by
  refine ⟨by simpa [World.setCell] using h.1, fun j hj => ?_⟩
  rw [List.length_set] at hj
  obtain ⟨c0, c1, c2, c3, f0, f1, f2, f3⟩ := h.2 j hj
  simp only [World.frozen?_setCell, f0, f1, f2, f3, and_true, List.getElem_set]
  have ne : ∀ s, s < 4 → s ≠ 2 ∨ k ≠ j → (⟨b, k * 4 + 2, none⟩ : Addr) ≠ ⟨b, j * 4 + s, none⟩ := fun s hs h e2 => by
    injection e2 with _ e3 _
    omega
  have n0 := ne 0 (by omega) (.inl (by omega))
  have n1 := ne 1 (by omega) (.inl (by omega))
  have n3 := ne 3 (by omega) (.inl (by omega))
  simp only [Nat.add_zero] at n0
  rw [World.cell?_setCell_other _ _ _ _ n0, World.cell?_setCell_other _ _ _ _ n1, World.cell?_setCell_other _ _ _ _ n3]
  by_cases e : k = j
  · subst e
    simp only [if_true]
    exact ⟨c0, c1, World.cell?_setCell_same' _ _ _ (by rw [c2]; rfl), c3⟩
  · simp only [if_neg e]
    rw [World.cell?_setCell_other _ _ _ _ (ne 2 (by omega) (.inr e))]
    exact ⟨c0, c1, c2, c3⟩
/-- The slice v, made by the call itself in a block from B on, holds just the entries X. -/
def OwnV (w : World) (B : Nat) (v : Value) (X : List EV) : Prop := w.ownsRow B 27 4 v X.length (cellsV X)
theorem OwnV.nil (w : World) (B : Nat) : OwnV w B (.slice none 0 0) [] := World.ownsRow_nil w B 27 4
theorem OwnV.alloc {w : World} {B : Nat} {v : Value} {X : List EV} (h : OwnV w B v X) (o : Obj) : OwnV (w.alloc o) B v X := World.ownsRow.alloc h o
theorem OwnV.made (w : World) {B : Nat} (hB : B ≤ w.heap.size) : OwnV (w.alloc (.cells #[] 27)) B (.slice (some ⟨w.heap.size, 0, none⟩) 0 0) [] :=
  World.ownsRow_made w #[] 0 hB (by decide) rfl
theorem OwnV.mono {w : World} {B B' : Nat} {v : Value} {l : List EV} (h : OwnV w B v l) (hB : B' ≤ B) : OwnV w B' v l := by
  refine ⟨h.1, ?_⟩
  rcases h.2 with h | ⟨g, cap, cur, hv, hg, r⟩
  · exact .inl h
  · exact .inr ⟨g, cap, cur, hv, Nat.le_trans hB hg, r⟩
theorem OwnV.below {w w' : World} {B : Nat} {v : Value} {l : List EV} (h : OwnV w B v l) (hb : Below w.heap.size w w') : OwnV w' B v l := by
  refine World.ownsRow.kept (row := none) h ⟨hb.os, hb.tape, hb.output, hb.size, fun k hk _ => hb.block k hk⟩ ?_
  cases hv : v.ownBlock <;> simp
theorem OwnV.row {w : World} {B : Nat} {v : Value} {X : List EV} (h : OwnV w B v X) (hn : v ≠ .slice none 0 0) : ∃ g cap, v = .slice (some ⟨g, 0, none⟩) X.length cap ∧ X.length ≤ cap ∧ B ≤ g ∧ RowE w g X := by
  rcases h.2 with ⟨e0, _⟩ | ⟨g, cap, cur, rfl, hg, hh, hnc, hm, hsz, ht⟩
  · exact absurd e0 hn
  · refine ⟨g, cap, rfl, hnc, hg, (Array.getElem?_eq_some_iff.1 hh).1, fun j hj => ?_⟩
    have cell := fun k u (hk : (cellsV X)[k]? = some u) => World.ownsRow.cells h (g := g) rfl k u hk
    have hg := cellsV_get X j hj
    have fz : ∀ k, w.frozen? ⟨g, k, none⟩ = false := fun k => by simp [World.frozen?, hh]
    have cc := fun k u (hk : (cellsV X)[k]? = some u) => by have := cell k u hk; rw [add_flat, Nat.zero_add] at this; exact this
    exact ⟨cc _ _ hg.1, cc _ _ hg.2.1, cc _ _ hg.2.2.1, cc _ _ hg.2.2.2, fz _, fz _, fz _, fz _⟩
theorem OwnV.rd {w : World} {B : Nat} {v : Value} {X : List EV} (h : OwnV w B v X) : RdV w v X := by
  by_cases hn : v = .slice none 0 0
  · subst hn
    rcases h.2 with ⟨_, h0⟩ | ⟨g, cap, cur, e0, _⟩
    · have : X = [] := List.eq_nil_of_length_eq_zero h0
      subst this
      exact ⟨none, 0, rfl, by simp, fun h => absurd h (by simp)⟩
    · cases e0
  · obtain ⟨g, cap, rfl, hc, _, hr⟩ := h.row hn
    refine ⟨_, cap, rfl, hc, fun _ => ⟨g, 0, rfl, hr.1, fun j hj => ?_⟩⟩
    obtain ⟨c0, c1, c2, c3, -, -, -, -⟩ := hr.2 j hj
    simp only [Nat.zero_add]
    exact ⟨c0, c1, c2, c3⟩
theorem rdV_cells {w : World} {ad : Addr} {X : List EV} {c : Nat} (h : RdV w (.slice (some ad) X.length c) X) : ∀ j u, (cellsV X)[j]? = some u → w.cell? (ad.add j) = some u := by
  obtain ⟨A, c', hv, hc, hr⟩ := h
  injection hv with e1 _ _
  intro j u hu
  have hj : j < X.length * 4 := by rw [← cellsV_len]; exact (List.getElem?_eq_some_iff.1 hu).1
  obtain ⟨b, off, hA, hlt, hcell⟩ := hr (by omega)
  rw [hA] at e1
  injection e1 with e1
  subst e1
  rw [add_flat]
  have hh := hcell (j / 4) (by omega)
  have hg := cellsV_get X (j / 4) (by omega)
  have h4 : j % 4 = 0 ∨ j % 4 = 1 ∨ j % 4 = 2 ∨ j % 4 = 3 := by omega
  rcases h4 with h4 | h4 | h4 | h4
  · rw [show j = j / 4 * 4 by omega] at hu ⊢
    rw [hg.1] at hu
    rw [← hu]; exact hh.1
  · rw [show j = j / 4 * 4 + 1 by omega] at hu ⊢
    rw [hg.2.1] at hu
    rw [← hu, ← Nat.add_assoc]; exact hh.2.1
  · rw [show j = j / 4 * 4 + 2 by omega] at hu ⊢
    rw [hg.2.2.1] at hu
    rw [← hu, ← Nat.add_assoc]; exact hh.2.2.1
  · rw [show j = j / 4 * 4 + 3 by omega] at hu ⊢
    rw [hg.2.2.2] at hu
    rw [← hu, ← Nat.add_assoc]; exact hh.2.2.2
end Go.Icz
namespace Go.Proofs.YtcdfjkhjdiojbaaDoor
open Go.RowKit Go.Icz
set_option maxRecDepth 100000 in
theorem wp_appV {ops : Array Oper} {rest : List Oper} {o : Oper} {a : Act} {Q : Exit → Act → World → Prop} {w : World} (hgd : o.guard = none) (s x : Operand)
    (ho : o.op = .call { callee := .builtin .append, args := #[s, x], argTypes := #[22, 22] })
    (B : Nat) (v u : Value) (l m : List EV) (hs : a.eval s = v) (hown : OwnV w B v l) (hx : a.eval x = u) (hr : RdV w u m)
    (hlen : (l.length + m.length) * 56 ≤ 140737488355328) (hB : B ≤ w.heap.size)
    (h : ∀ v' w', OwnV w' B v' (l ++ m) → Below B w w' → w.grownBy w' v.ownBlock → (v' = .slice none 0 0 → v = .slice none 0 0) → wpList Tryd.prog ops Q rest (a.put o.dst v') w') :
    wpList Tryd.prog ops Q (o :: rest) a w := by
  obtain ⟨i0, hi, hz0, hz1, hz2⟩ := info_parts infoE
  have hr' := hr
  obtain ⟨A, c, rfl, hc, hcell⟩ := hr'
  rcases A with _ | ad
  · have hm : m = [] := by
      rcases Nat.eq_zero_or_pos m.length with h0 | h0
      · exact List.eq_nil_of_length_eq_zero h0
      · obtain ⟨b, off, e, _⟩ := hcell h0
        cases e
    subst hm
    refine wpList_plain hgd fun K hK => ?_
    unfold Oper.wp execOp
    have hrun : (Builtin.append_ #[22, 22] o.type #[v, .slice none 0 c]).run Tryd.prog w = .ok v w := by
      rcases hown.2 with ⟨rfl, _⟩ | ⟨g, cap, cur, rfl, _, _, hnc, _⟩
      · simp [Builtin.append_, run_underlying Tryd.underlying22, Go.sizeOf, typeInfo, hi, Builtin.lenOf, Builtin.firstCells]
      · simp [Builtin.append_, run_underlying Tryd.underlying22, Go.sizeOf, typeInfo, hi, Builtin.lenOf, Builtin.firstCells, hnc, storeCells]
    simp only [ho, resolve, invoke, builtin, Sem.run_bind, Sem.run_pure, Result.andThen_ok, List.map_toArray, List.map_cons, List.map_nil, hs, hx, List.length_nil, hrun]
    exact hK _ _ (h v w (by simpa using hown) (Below.refl _ _) (World.grownBy.refl _ _) (fun e => e))
  · refine wpList_append_own _ hgd s x 22 ho B 27 i0 _ 4 56 Tryd.underlying22 hi hz0 hz1 hz2 rfl (by decide) v l.length (cellsV l) hs hown ad m.length c (cellsV m) hx (cellsV_len m) (rdV_cells hr) (cellsV_one m) (by unfold maxLen; omega) hlen hB ?_
    intro v' w' h1 h2 h3
    exact h v' w' (by unfold OwnV; rw [cellsV_app, List.length_append]; exact h1) ((Below.refl B w).grown h2 hB (fun k hk => (World.ownsRow.lt hown k hk).1)) h2 (fun e => (h3.1 e).1)
set_option maxRecDepth 100000 in
theorem step_appV {ops : Array Oper} {o : Oper} {a : Act} {K : Act → World → Prop} {Q : Exit → Act → World → Prop} {E : Prop} {w : World} (hgd : o.guard = none) (s x : Operand)
    (ho : o.op = .call { callee := .builtin .append, args := #[s, x], argTypes := #[22, 22] })
    (B : Nat) (v u : Value) (l m : List EV) (hs : a.eval s = v) (hown : OwnV w B v l) (hx : a.eval x = u) (hr : RdV w u m)
    (hlen : (l.length + m.length) * 56 ≤ 140737488355328) (hB : B ≤ w.heap.size)
    (h : ∀ v' w', OwnV w' B v' (l ++ m) → Below B w w' → w.grownBy w' v.ownBlock → (v' = .slice none 0 0 → v = .slice none 0 0) → K (a.put o.dst v') w') :
    if Region.wanted o (yielded ops a.tmps) = true then Oper.wp Tryd.prog o a w K Q else E := by
  have hw : Region.wanted o (yielded ops a.tmps) = true := by simp [Region.wanted, hgd]
  rw [if_pos hw]
  obtain ⟨i0, hi, hz0, hz1, hz2⟩ := info_parts infoE
  have hr' := hr
  obtain ⟨A, c, rfl, hc, hcell⟩ := hr'
  rcases A with _ | ad
  · have hm : m = [] := by
      rcases Nat.eq_zero_or_pos m.length with h0 | h0
      · exact List.eq_nil_of_length_eq_zero h0
      · obtain ⟨b, off, e, _⟩ := hcell h0
        cases e
    subst hm
    unfold Oper.wp execOp
    have hrun : (Builtin.append_ #[22, 22] o.type #[v, .slice none 0 c]).run Tryd.prog w = .ok v w := by
      rcases hown.2 with ⟨rfl, _⟩ | ⟨g, cap, cur, rfl, _, _, hnc, _⟩
      · simp [Builtin.append_, run_underlying Tryd.underlying22, Go.sizeOf, typeInfo, hi, Builtin.lenOf, Builtin.firstCells]
      · simp [Builtin.append_, run_underlying Tryd.underlying22, Go.sizeOf, typeInfo, hi, Builtin.lenOf, Builtin.firstCells, hnc, storeCells]
    simp only [ho, resolve, invoke, builtin, Sem.run_bind, Sem.run_pure, Result.andThen_ok, List.map_toArray, List.map_cons, List.map_nil, hs, hx, List.length_nil, hrun]
    exact h v w (by simpa using hown) (Below.refl _ _) (World.grownBy.refl _ _) (fun e => e)
  · refine wp_append_own _ s x 22 ho B 27 i0 _ 4 56 Tryd.underlying22 hi hz0 hz1 hz2 rfl (by decide) v l.length (cellsV l) hs hown ad m.length c (cellsV m) hx (cellsV_len m) (rdV_cells hr) (cellsV_one m) (by unfold maxLen; omega) hlen hB ?_
    intro v' w' h1 h2 h3
    exact h v' w' (by unfold OwnV; rw [cellsV_app, List.length_append]; exact h1) ((Below.refl B w).grown h2 hB (fun k hk => (World.ownsRow.lt hown k hk).1)) h2 (fun e => (h3.1 e).1)
set_option maxRecDepth 100000 in
theorem cloneE_is (v : Value) (X : List EV) (w : World) (hR : RdV w v X) (hlen : X.length * 56 ≤ 140737488355328) :
    Calls Tryd.prog 25 #[v] w fun e w' => ∃ v', e = .returned v' ∧ Below w.heap.size w w' ∧ ((v' = .slice none 0 0 ∧ X = []) ∨ ∃ g cap, v' = .slice (some ⟨g, 0, none⟩) X.length cap ∧ X.length ≤ cap ∧ w.heap.size ≤ g ∧ RowE w' g X) := by
  have hR' := hR
  obtain ⟨A, c, rfl, hlc, hcell⟩ := hR'
  rcases A with _ | ad
  · have hl : X = [] := by
      rcases Nat.eq_zero_or_pos X.length with h0 | h0
      · exact List.eq_nil_of_length_eq_zero h0
      · obtain ⟨b, off, e, _⟩ := hcell h0
        cases e
    refine (AnyE.slices_Clone_nil Tryd.cloneE X.length c w).mono ?_
    rintro e w' ⟨rfl, rfl⟩
    exact ⟨_, rfl, Below.refl _ _, .inl ⟨rfl, hl⟩⟩
  · clear hcell
    have q22 : ∀ (w : World) (a : Option Addr) (n c n' c' : Nat), (binOp .eql 22 (.slice a n c) (.slice none n' c')).run Tryd.prog w = .ok (.bool a.isNone) w := fun w a n c n' c' => Lib.run_eql_slice_nil w _ _ a n c n' c' Tryd.underlying22
    have hR2 := fun o => hR.below ((Below.refl _ w).alloc (Nat.le_refl _) o)
    go_enter Tryd.func25, Tryd.ntmps25
    go_wp2_with (at_builtin; refine wp_appV rfl (.tmp 5) (.tmp 6) rfl w.heap.size _ _ [] X rfl (OwnV.made w (Nat.le_refl _)) rfl (hR2 _) (by simpa using hlen) (by simp) ?_; intro v' w1 hown hb _ hn)
    go_ret
    have hn2 : v' ≠ .slice none 0 0 := fun e => by have := hn e; cases this
    rw [List.nil_append] at hown
    obtain ⟨g, cap, e1, e2, e3, e4⟩ := hown.row hn2
    exact ⟨v', rfl, below_alloc (Nat.le_refl _) hb, .inr ⟨g, cap, e1, e2, e3, e4⟩⟩
set_option maxRecDepth 100000 in
theorem cloneLb_is (v : Value) (l : List Lab) (w : World) (hR : RdL w v l) (hlen : l.length * 32 ≤ 140737488355328) :
    Calls Tryd.prog 26 #[v] w fun e w' => ∃ A c, e = .returned (.slice A l.length c) ∧ Below w.heap.size w w' ∧ RdL w' (.slice A l.length c) l ∧ (0 < l.length → ∃ b off, A = some ⟨b, off, none⟩ ∧ w.heap.size ≤ b) := by
  have hR' := hR
  obtain ⟨A, c, rfl, hlc, hcell⟩ := hR'
  rcases A with _ | ad
  · have hl : l = [] := by
      rcases Nat.eq_zero_or_pos l.length with h0 | h0
      · exact List.eq_nil_of_length_eq_zero h0
      · obtain ⟨b, off, e, _⟩ := hcell h0
        cases e
    refine (AnyE.slices_Clone_nil Tryd.cloneLb l.length c w).mono ?_
    rintro e w' ⟨rfl, rfl⟩
    subst hl
    exact ⟨none, 0, rfl, Below.refl _ _, RdL.nil _, fun h => absurd h (by simp)⟩
  · clear hcell
    have q22 : ∀ (w : World) (a : Option Addr) (n c n' c' : Nat), (binOp .eql 25 (.slice a n c) (.slice none n' c')).run Tryd.prog w = .ok (.bool a.isNone) w := fun w a n c n' c' => Lib.run_eql_slice_nil w _ _ a n c n' c' Tryd.underlying25
    have hR2 := fun o => hR.alloc o
    go_enter Tryd.func26, Tryd.ntmps26
    go_wp2_with (at_builtin; refine wp_appL rfl (.tmp 5) (.tmp 6) rfl w.heap.size _ _ [] l rfl (OwnL.made w (Nat.le_refl _)) rfl (hR2 _) (by simpa using hlen) (by simp) ?_; intro v' w1 hown hb hn)
    go_ret
    rw [List.nil_append] at hown
    have hrd := hown.rd
    rcases hown.2 with ⟨rfl, h0⟩ | ⟨g, cap, cur, rfl, hg, _⟩
    · obtain rfl : l = [] := List.eq_nil_of_length_eq_zero h0
      exact ⟨none, 0, rfl, below_alloc (Nat.le_refl _) hb, hrd, fun h => absurd h (by simp)⟩
    · exact ⟨_, cap, rfl, below_alloc (Nat.le_refl _) hb, hrd, fun _ => ⟨g, 0, rfl, hg⟩⟩
set_option maxHeartbeats 1000000 in
set_option maxRecDepth 100000 in
theorem insertion_none (f : Value) (w : World) : Calls Tryd.prog 72 #[.slice none 0 0, .int .i64 0, .int .i64 0, f] w fun e w' => e = .returned (.tuple #[]) ∧ Below w.heap.size w w' := by
  go_enter Tryd.func72, Tryd.ntmps72
  go_wp2
  go_loopw [8] (fun iv wr => iv = .int .i64 1 ∧ Below w.heap.size w wr) (fun _ _ => 0)
  case atStart => exact ⟨by go_num, Below.refl _ _⟩
  case round =>
    obtain ⟨rfl, hb⟩ := hrel
    go_wp2
    go_end0
    exact ⟨rfl, hb⟩
set_option maxHeartbeats 1000000 in
set_option maxRecDepth 100000 in
theorem stable_none (f : Nat) (w : World) : Calls Tryd.prog 50 #[.slice none 0 0, .int .i64 0, cmpF f] w fun e w' => e = .returned (.tuple #[]) ∧ Below w.heap.size w w' := by
  unfold cmpF
  go_enter Tryd.func50, Tryd.ntmps50
  go_wp2_with fail
  go_loopw [7, 8] (fun av cv wr => av = .int .i64 0 ∧ cv = .int .i64 20 ∧ Below w.heap.size w wr) (fun _ _ _ => 0)
  case atStart => exact ⟨rfl, rfl, Below.refl _ _⟩
  case round =>
    obtain ⟨rfl, rfl, hb⟩ := hrel
    go_wp2_with (go_at_call 72; refine (insertion_none _ _).mono ?_; rintro e w2 ⟨rfl, b2⟩; have hb2 := hb.trans (b2.mono hb.size))
    generalize wr = wz at *
    go_loopw [6] (fun kv wr => kv = .int .i64 20 ∧ Below w.heap.size w wr) (fun _ _ => 0)
    case atStart => exact ⟨rfl, hb2⟩
    case round =>
      obtain ⟨rfl, hb⟩ := hrel
      go_wp2_with fail
      go_end0
      exact ⟨rfl, hb⟩
set_option maxRecDepth 100000 in
theorem sortStable_is (b cap N : Nat) (X : List EV) (w : World) (hN : X.length = N) (hR : RowE w b X) (hlen : N ≤ 1152921504606846976) :
    Calls Tryd.prog 27 #[.slice (some ⟨b, 0, none⟩) N cap, cmpF 28] w fun e w' => e = .returned (.tuple #[]) ∧ (∃ M, RowE w' b M ∧ StableOf ltE X M) ∧ w.grownBy w' (some b) := by
  have h := stable_is b cap N X w hN hR hlen
  unfold cmpF at h ⊢
  have HN := hid hN
  clear hN
  go_enter Tryd.func27, Tryd.ntmps27
  go_wp2_with (go_at_call 50; refine h.mono ?_; rintro e w2 ⟨rfl, h2⟩)
  go_end0
  exact ⟨rfl, h2⟩
set_option maxRecDepth 100000 in
theorem sortStable_none (f : Nat) (w : World) : Calls Tryd.prog 27 #[.slice none 0 0, cmpF f] w fun e w' => e = .returned (.tuple #[]) ∧ Below w.heap.size w w' := by
  have h := stable_none f w
  unfold cmpF at h ⊢
  go_enter Tryd.func27, Tryd.ntmps27
  go_wp2_with (go_at_call 50; refine h.mono ?_; rintro e w2 ⟨rfl, h2⟩)
  go_end0
  exact ⟨rfl, h2⟩
end Go.Proofs.YtcdfjkhjdiojbaaDoor
