/-
  What slices.Clone of entries and of labels, slices.SortStableFunc and record.Sort answer. Conditions: the entries can be read; sizes as each theorem names.
  What record.Sort answers: the entries sorted, equals as they stood. Conditions: the entries can be read; sizes as the theorem names.
  What the reference's Before and Sort of entries answer: the entries sorted, equals as they stood. Conditions: the entries can be read; sizes as the theorem names.
-/
import Derived.Test.YtaoeabnpmpimgaaDoorStabF
import Derived.Test.YtaoeabnpmpimgaaDoorEntAll2
import Derived.Shelf.SlGeneric
import Derived.Shelf.SlicesE.Clone
import Derived.Ground.SlgnProg
import Derived.Deep.AppendLies
import Derived.Deep.SlicePairs
import Derived.Test.YtaoeabnpmpimgaaDoorRefRight
import Derived.Deep.RegionHeld3
import Derived.Deep.RegionLaw
section
namespace Go.Proofs
open Go.Shelf
def Tryd.cloneE_ren : Go.Shelf.Ren := ⟨fun | 41 => 41 | n => n, fun | 22 => 22 | 23 => 50 | 4 => 4 | n => n, fun | n => n⟩
theorem Tryd.cloneE : Go.Proofs.SlLaysE0.n41 Tryd.prog Tryd.cloneE_ren := {
  mixed := by kernel_rfl
  f41 := ⟨Tryd.f41.name, by decide, Tryd.func41.trans (congrArg some (by kernel_rfl))⟩
  t4 := Tryd.underlying4
  a4 := Tryd.isAgg4
  z4 := Tryd.sizeOf4
  v4 := Tryd.zeroValue4
  t22 := Tryd.underlying22
  a22 := Tryd.isAgg22
  z22 := Tryd.sizeOf22
  v22 := Tryd.zeroValue22 }
def Tryd.cloneLb_ren : Go.Shelf.Ren := ⟨fun | 41 => 42 | n => n, fun | 22 => 32 | 23 => 65 | 4 => 4 | n => n, fun | n => n⟩
theorem Tryd.cloneLb : Go.Proofs.SlLaysE0.n41 Tryd.prog Tryd.cloneLb_ren := {
  mixed := by kernel_rfl
  f41 := ⟨Tryd.f42.name, by decide, Tryd.func42.trans (congrArg some (by kernel_rfl))⟩
  t4 := Tryd.underlying4
  a4 := Tryd.isAgg4
  z4 := Tryd.sizeOf4
  v4 := Tryd.zeroValue4
  t22 := Tryd.underlying32
  a22 := Tryd.isAgg32
  z22 := Tryd.sizeOf32
  v22 := Tryd.zeroValue32 }
end Go.Proofs
namespace Go.Icz
open Go.RowKit
def evV (p : EV) : Ent × Value := (p.1, .slice p.2.1 p.1.labs.length p.2.2)
/-- The cells of a row of entries, labels where they lie. -/
def cellsV (X : List EV) : List Value := cellsM (X.map evV)
theorem cellsV_len (X : List EV) : (cellsV X).length = X.length * 4 := by unfold cellsV; rw [cellsM_len, List.length_map]
theorem cellsV_app (X Y : List EV) : cellsV (X ++ Y) = cellsV X ++ cellsV Y := by unfold cellsV; rw [List.map_append, cellsM_app]
theorem cellsV_get (X : List EV) (j : Nat) (hj : j < X.length) : (cellsV X)[j * 4]? = some (.int .i64 (X[j]).1.seq) ∧ (cellsV X)[j * 4 + 1]? = some (.int .i64 (X[j]).1.time) ∧ (cellsV X)[j * 4 + 2]? = some (.slice (X[j]).2.1 (X[j]).1.labs.length (X[j]).2.2) ∧ (cellsV X)[j * 4 + 3]? = some (.string ⟨(X[j]).1.line.toArray⟩) := by
  have h := cellsM_get (X.map evV) j (by rw [List.length_map]; exact hj)
  simp only [List.getElem_map] at h
  exact h
theorem cellsV_one (X : List EV) : ∀ u ∈ cellsV X, u.oneCell' = true := by
  intro u hu
  unfold cellsV cellsM at hu
  rw [List.mem_flatMap] at hu
  obtain ⟨p, hp, hu⟩ := hu
  obtain ⟨q, hq, rfl⟩ := List.mem_map.1 hp
  simp [evV] at hu
  rcases hu with rfl | rfl | rfl | rfl <;> rfl
/-- The labels of an entry can be read, and do not lie in block g. -/
def LabAt (w : World) (g : Nat) (p : EV) : Prop := ∃ b0, (0 < p.1.labs.length → b0 ≠ g ∧ ∃ off, p.2.1 = some ⟨b0, off, none⟩) ∧ RdL w (.slice p.2.1 p.1.labs.length p.2.2) p.1.labs
/-- The slice v reads as the entries X, labels where they lie. -/
def RdV (w : World) (v : Value) (X : List EV) : Prop :=
  ∃ A c, v = .slice A X.length c ∧ X.length ≤ c ∧ (0 < X.length → ∃ b off, A = some ⟨b, off, none⟩ ∧ b < w.heap.size ∧
    ∀ j (hj : j < X.length), w.cell? ⟨b, off + j * 4, none⟩ = some (.int .i64 (X[j]).1.seq) ∧ w.cell? ⟨b, off + j * 4 + 1, none⟩ = some (.int .i64 (X[j]).1.time) ∧ w.cell? ⟨b, off + j * 4 + 2, none⟩ = some (.slice (X[j]).2.1 (X[j]).1.labs.length (X[j]).2.2) ∧ w.cell? ⟨b, off + j * 4 + 3, none⟩ = some (.string ⟨(X[j]).1.line.toArray⟩))
theorem RdV.below {w w' : World} {v : Value} {X : List EV} (h : RdV w v X) (hb : Below w.heap.size w w') : RdV w' v X := by
  obtain ⟨A, c, hv, hc, hr⟩ := h
  refine ⟨A, c, hv, hc, fun h0 => ?_⟩
  obtain ⟨b, off, hA, hlt, hcell⟩ := hr h0
  refine ⟨b, off, hA, Nat.lt_of_lt_of_le hlt hb.size, fun j hj => ?_⟩
  obtain ⟨h0, h1, h2, h3⟩ := hcell j hj
  exact ⟨(hb.cell (p := ⟨b, off + j * 4, none⟩) hlt).trans h0, (hb.cell (p := ⟨b, off + j * 4 + 1, none⟩) hlt).trans h1, (hb.cell (p := ⟨b, off + j * 4 + 2, none⟩) hlt).trans h2, (hb.cell (p := ⟨b, off + j * 4 + 3, none⟩) hlt).trans h3⟩
/-- Entries that can be read, with their labels' places named. -/
theorem RdE.places {w : World} {v : Value} {l : List Ent} (h : RdE w v l) : ∃ X : List EV, X.map (·.1) = l ∧ RdV w v X ∧ ∀ p ∈ X, RdL w (.slice p.2.1 p.1.labs.length p.2.2) p.1.labs := by
  obtain ⟨A, c, rfl, hc, hr⟩ := h
  rcases Nat.eq_zero_or_pos l.length with h0 | h0
  · obtain rfl : l = [] := List.eq_nil_of_length_eq_zero h0
    exact ⟨[], rfl, ⟨A, c, rfl, by simp, fun h => absurd h (by simp)⟩, by simp⟩
  · obtain ⟨b, off, rfl, hlt, hcell⟩ := hr h0
    have each : ∀ i, i < l.length → ∃ y : EV, l[i]? = some y.1 ∧ w.cell? ⟨b, off + i * 4, none⟩ = some (.int .i64 y.1.seq) ∧ w.cell? ⟨b, off + i * 4 + 1, none⟩ = some (.int .i64 y.1.time) ∧ w.cell? ⟨b, off + i * 4 + 2, none⟩ = some (.slice y.2.1 y.1.labs.length y.2.2) ∧ w.cell? ⟨b, off + i * 4 + 3, none⟩ = some (.string ⟨y.1.line.toArray⟩) ∧ RdL w (.slice y.2.1 y.1.labs.length y.2.2) y.1.labs := by
      intro i hi
      obtain ⟨A', c', h0, h1, h2, h3, h4⟩ := hcell i hi
      exact ⟨(l[i], A', c'), List.getElem?_eq_getElem hi, h0, h1, h2, h3, h4⟩
    haveI : Inhabited EV := ⟨(⟨0, 0, [], []⟩, none, 0)⟩
    obtain ⟨Y, hY⟩ := Go.Deep.choose_lt each
    have hlen : ((List.range l.length).map Y).length = l.length := by simp
    refine ⟨(List.range l.length).map Y, ?_, ⟨_, c, by rw [hlen], by rw [hlen]; exact hc, fun _ => ⟨b, off, rfl, hlt, fun j hj => ?_⟩⟩, fun p hp => ?_⟩
    · apply List.ext_getElem?
      intro i
      rw [List.map_map, List.getElem?_map]
      rcases Nat.lt_or_ge i l.length with hi | hi
      · rw [List.getElem?_range hi, (hY i hi).1]; rfl
      · rw [List.getElem?_eq_none hi, List.getElem?_eq_none (by simpa using hi)]; rfl
    · rw [hlen] at hj
      have h := (hY j hj).2
      simp only [List.getElem_map, List.getElem_range]
      exact ⟨h.1, h.2.1, h.2.2.1, h.2.2.2.1⟩
    · obtain ⟨i, hi, rfl⟩ := List.mem_map.1 hp
      exact (hY i (List.mem_range.1 hi)).2.2.2.2.2
theorem LabAt.below {w w' : World} {g : Nat} {p : EV} (h : LabAt w g p) (hb : Below w.heap.size w w') : LabAt w' g p := by
  obtain ⟨b0, h1, h2⟩ := h
  exact ⟨b0, h1, h2.below hb⟩
theorem LabAt.grown {w w' : World} {g : Nat} {p : EV} (h : LabAt w g p) (hg : w.grownBy w' (some g)) : LabAt w' g p := by
  obtain ⟨b0, h1, A, c, hv, hc, hr⟩ := h
  injection hv with e1 e2 e3
  refine ⟨b0, h1, A, c, by rw [e1, e3], hc, fun h0 => ?_⟩
  obtain ⟨hne, off0, hA0⟩ := h1 h0
  obtain ⟨b, off, hA, hlt, hcell⟩ := hr h0
  rw [e1, hA] at hA0
  injection hA0 with hA0
  injection hA0 with q1 _
  subst q1
  refine ⟨b, off, hA, Nat.lt_of_lt_of_le hlt hg.size, fun j hj => ?_⟩
  have hne' : some b ≠ some g := fun e => hne (by injection e)
  exact ⟨(hg.cell_far ⟨b, off + j * 2, none⟩ hlt hne').trans (hcell j hj).1, (hg.cell_far ⟨b, off + j * 2 + 1, none⟩ hlt hne').trans (hcell j hj).2⟩
theorem RdL.labAt {w : World} {g : Nat} {p : EV} (h : RdL w (.slice p.2.1 p.1.labs.length p.2.2) p.1.labs) (hg : w.heap.size ≤ g) : LabAt w g p := by
  obtain ⟨A, c, hv, hc, hr⟩ := id h
  injection hv with e1 e2 e3
  rcases Nat.eq_zero_or_pos p.1.labs.length with h0 | h0
  · exact ⟨0, fun h1 => by omega, h⟩
  · obtain ⟨b, off, hA, hlt, _⟩ := hr h0
    exact ⟨b, fun _ => ⟨by omega, off, by rw [e1, hA]⟩, h⟩
/-- A row of entries in a block of its own, whose labels can be read. -/
theorem RowE.rdE {w : World} {b cap : Nat} {X : List EV} (h : RowE w b X) (hc : X.length ≤ cap) (hl : ∀ p ∈ X, LabAt w b p) : RdE w (.slice (some ⟨b, 0, none⟩) X.length cap) (X.map (·.1)) := by
  refine ⟨_, cap, by rw [List.length_map], by rw [List.length_map]; exact hc, fun _ => ⟨b, 0, rfl, h.1, fun j hj => ?_⟩⟩
  rw [List.length_map] at hj
  obtain ⟨c0, c1, c2, c3, -, -, -, -⟩ := h.2 j hj
  obtain ⟨_, _, hr⟩ := hl X[j] (List.getElem_mem hj)
  simp only [List.getElem_map, Nat.zero_add]
  exact ⟨_, _, c0, c1, c2, c3, hr⟩
theorem RowE.putLab {w : World} {b : Nat} {X : List EV} (h : RowE w b X) (k : Nat) (hk : k < X.length) (A : Option Addr) (c : Nat) :
    RowE (w.setCell ⟨b, k * 4 + 2, none⟩ (.slice A (X[k]).1.labs.length c)) b (X.set k ((X[k]).1, A, c)) := by
  refine ⟨by simpa [World.setCell] using h.1, fun j hj => ?_⟩
  rw [List.length_set] at hj
  obtain ⟨c0, c1, c2, c3, f0, f1, f2, f3⟩ := h.2 j hj
  simp only [World.frozen?_setCell, f0, f1, f2, f3, and_true, List.getElem_set]
  have ne : ∀ s, s < 4 → s ≠ 2 ∨ k ≠ j → (⟨b, k * 4 + 2, none⟩ : Addr) ≠ ⟨b, j * 4 + s, none⟩ := fun s hs h e2 => by
    injection e2 with _ e3 _
    omega
  have n0 := ne 0 (by omega) (.inl (by omega))
  have n1 := ne 1 (by omega) (.inl (by omega))
  have n3 := ne 3 (by omega) (.inl (by omega))
  simp only [Nat.add_zero] at n0
  rw [World.cell?_setCell_other _ _ _ _ n0, World.cell?_setCell_other _ _ _ _ n1, World.cell?_setCell_other _ _ _ _ n3]
  by_cases e : k = j
  · subst e
    simp only [if_true]
    exact ⟨c0, c1, World.cell?_setCell_same' _ _ _ (by rw [c2]; rfl), c3⟩
  · simp only [if_neg e]
    rw [World.cell?_setCell_other _ _ _ _ (ne 2 (by omega) (.inr e))]
    exact ⟨c0, c1, c2, c3⟩
/-- The slice v, made by the call itself in a block from B on, holds just the entries X. -/
def OwnV (w : World) (B : Nat) (v : Value) (X : List EV) : Prop := w.ownsRow B 50 4 v X.length (cellsV X)
theorem OwnV.nil (w : World) (B : Nat) : OwnV w B (.slice none 0 0) [] := World.ownsRow_nil w B 50 4
theorem OwnV.alloc {w : World} {B : Nat} {v : Value} {X : List EV} (h : OwnV w B v X) (o : Obj) : OwnV (w.alloc o) B v X := World.ownsRow.alloc h o
theorem OwnV.made (w : World) {B : Nat} (hB : B ≤ w.heap.size) : OwnV (w.alloc (.cells #[] 50)) B (.slice (some ⟨w.heap.size, 0, none⟩) 0 0) [] :=
  World.ownsRow_made w #[] 0 hB (by decide) rfl
theorem OwnV.mono {w : World} {B B' : Nat} {v : Value} {l : List EV} (h : OwnV w B v l) (hB : B' ≤ B) : OwnV w B' v l := by
  refine ⟨h.1, ?_⟩
  rcases h.2 with h | ⟨g, cap, cur, hv, hg, r⟩
  · exact .inl h
  · exact .inr ⟨g, cap, cur, hv, Nat.le_trans hB hg, r⟩
theorem OwnV.below {w w' : World} {B : Nat} {v : Value} {l : List EV} (h : OwnV w B v l) (hb : Below w.heap.size w w') : OwnV w' B v l := by
  refine World.ownsRow.kept (row := none) h ⟨hb.os, hb.tape, hb.output, hb.size, fun k hk _ => hb.block k hk⟩ ?_
  cases hv : v.ownBlock <;> simp
theorem OwnV.row {w : World} {B : Nat} {v : Value} {X : List EV} (h : OwnV w B v X) (hn : v ≠ .slice none 0 0) : ∃ g cap, v = .slice (some ⟨g, 0, none⟩) X.length cap ∧ X.length ≤ cap ∧ B ≤ g ∧ RowE w g X := by
  rcases h.2 with ⟨e0, _⟩ | ⟨g, cap, cur, rfl, hg, hh, hnc, hm, hsz, ht⟩
  · exact absurd e0 hn
  · refine ⟨g, cap, rfl, hnc, hg, (Array.getElem?_eq_some_iff.1 hh).1, fun j hj => ?_⟩
    have cell := fun k u (hk : (cellsV X)[k]? = some u) => World.ownsRow.cells h (g := g) rfl k u hk
    have hg := cellsV_get X j hj
    have fz : ∀ k, w.frozen? ⟨g, k, none⟩ = false := fun k => by simp [World.frozen?, hh]
    have cc := fun k u (hk : (cellsV X)[k]? = some u) => by have := cell k u hk; rw [add_flat, Nat.zero_add] at this; exact this
    exact ⟨cc _ _ hg.1, cc _ _ hg.2.1, cc _ _ hg.2.2.1, cc _ _ hg.2.2.2, fz _, fz _, fz _, fz _⟩
theorem OwnV.rd {w : World} {B : Nat} {v : Value} {X : List EV} (h : OwnV w B v X) : RdV w v X := by
  by_cases hn : v = .slice none 0 0
  · subst hn
    rcases h.2 with ⟨_, h0⟩ | ⟨g, cap, cur, e0, _⟩
    · have : X = [] := List.eq_nil_of_length_eq_zero h0
      subst this
      exact ⟨none, 0, rfl, by simp, fun h => absurd h (by simp)⟩
    · cases e0
  · obtain ⟨g, cap, rfl, hc, _, hr⟩ := h.row hn
    refine ⟨_, cap, rfl, hc, fun _ => ⟨g, 0, rfl, hr.1, fun j hj => ?_⟩⟩
    obtain ⟨c0, c1, c2, c3, -, -, -, -⟩ := hr.2 j hj
    simp only [Nat.zero_add]
    exact ⟨c0, c1, c2, c3⟩
theorem rdV_cells {w : World} {ad : Addr} {X : List EV} {c : Nat} (h : RdV w (.slice (some ad) X.length c) X) : ∀ j u, (cellsV X)[j]? = some u → w.cell? (ad.add j) = some u := by
  obtain ⟨A, c', hv, hc, hr⟩ := h
  injection hv with e1 _ _
  intro j u hu
  have hj : j < X.length * 4 := by rw [← cellsV_len]; exact (List.getElem?_eq_some_iff.1 hu).1
  obtain ⟨b, off, hA, hlt, hcell⟩ := hr (by omega)
  rw [hA] at e1
  injection e1 with e1
  subst e1
  rw [add_flat]
  have hh := hcell (j / 4) (by omega)
  have hg := cellsV_get X (j / 4) (by omega)
  have h4 : j % 4 = 0 ∨ j % 4 = 1 ∨ j % 4 = 2 ∨ j % 4 = 3 := by omega
  rcases h4 with h4 | h4 | h4 | h4
  · rw [show j = j / 4 * 4 by omega] at hu ⊢
    rw [hg.1] at hu
    rw [← hu]; exact hh.1
  · rw [show j = j / 4 * 4 + 1 by omega] at hu ⊢
    rw [hg.2.1] at hu
    rw [← hu, ← Nat.add_assoc]; exact hh.2.1
  · rw [show j = j / 4 * 4 + 2 by omega] at hu ⊢
    rw [hg.2.2.1] at hu
    rw [← hu, ← Nat.add_assoc]; exact hh.2.2.1
  · rw [show j = j / 4 * 4 + 3 by omega] at hu ⊢
    rw [hg.2.2.2] at hu
    rw [← hu, ← Nat.add_assoc]; exact hh.2.2.2
end Go.Icz
namespace Go.Proofs.YtaoeabnpmpimgaaDoor
open Go.RowKit Go.Icz
set_option maxRecDepth 100000 in
theorem wp_appV {ops : Array Oper} {rest : List Oper} {o : Oper} {a : Act} {Q : Exit → Act → World → Prop} {w : World} (hgd : o.guard = none) (s x : Operand)
    (ho : o.op = .call { callee := .builtin .append, args := #[s, x], argTypes := #[22, 22] })
    (B : Nat) (v u : Value) (l m : List EV) (hs : a.eval s = v) (hown : OwnV w B v l) (hx : a.eval x = u) (hr : RdV w u m)
    (hlen : (l.length + m.length) * 56 ≤ 140737488355328) (hB : B ≤ w.heap.size)
    (h : ∀ v' w', OwnV w' B v' (l ++ m) → Below B w w' → w.grownBy w' v.ownBlock → (v' = .slice none 0 0 → v = .slice none 0 0) → wpList Tryd.prog ops Q rest (a.put o.dst v') w') :
    wpList Tryd.prog ops Q (o :: rest) a w := by
  obtain ⟨i0, hi, hz0, hz1, hz2⟩ := info_parts infoE
  have hr' := hr
  obtain ⟨A, c, rfl, hc, hcell⟩ := hr'
  rcases A with _ | ad
  · have hm : m = [] := by
      rcases Nat.eq_zero_or_pos m.length with h0 | h0
      · exact List.eq_nil_of_length_eq_zero h0
      · obtain ⟨b, off, e, _⟩ := hcell h0
        cases e
    subst hm
    refine wpList_plain hgd fun K hK => ?_
    unfold Oper.wp execOp
    have hrun : (Builtin.append_ #[22, 22] o.type #[v, .slice none 0 c]).run Tryd.prog w = .ok v w := by
      rcases hown.2 with ⟨rfl, _⟩ | ⟨g, cap, cur, rfl, _, _, hnc, _⟩
      · simp [Builtin.append_, run_underlying Tryd.underlying22, Go.sizeOf, typeInfo, hi, Builtin.lenOf, Builtin.firstCells]
      · simp [Builtin.append_, run_underlying Tryd.underlying22, Go.sizeOf, typeInfo, hi, Builtin.lenOf, Builtin.firstCells, hnc, storeCells]
    simp only [ho, resolve, invoke, builtin, Sem.run_bind, Sem.run_pure, Result.andThen_ok, List.map_toArray, List.map_cons, List.map_nil, hs, hx, List.length_nil, hrun]
    exact hK _ _ (h v w (by simpa using hown) (Below.refl _ _) (World.grownBy.refl _ _) (fun e => e))
  · refine wpList_append_own _ hgd s x 22 ho B 50 i0 _ 4 56 Tryd.underlying22 hi hz0 hz1 hz2 rfl (by decide) v l.length (cellsV l) hs hown ad m.length c (cellsV m) hx (cellsV_len m) (rdV_cells hr) (cellsV_one m) (by unfold maxLen; omega) hlen hB ?_
    intro v' w' h1 h2 h3
    exact h v' w' (by unfold OwnV; rw [cellsV_app, List.length_append]; exact h1) ((Below.refl B w).grown h2 hB (fun k hk => (World.ownsRow.lt hown k hk).1)) h2 (fun e => (h3.1 e).1)
set_option maxRecDepth 100000 in
theorem step_appV {ops : Array Oper} {o : Oper} {a : Act} {K : Act → World → Prop} {Q : Exit → Act → World → Prop} {E : Prop} {w : World} (hgd : o.guard = none) (s x : Operand)
    (ho : o.op = .call { callee := .builtin .append, args := #[s, x], argTypes := #[22, 22] })
    (B : Nat) (v u : Value) (l m : List EV) (hs : a.eval s = v) (hown : OwnV w B v l) (hx : a.eval x = u) (hr : RdV w u m)
    (hlen : (l.length + m.length) * 56 ≤ 140737488355328) (hB : B ≤ w.heap.size)
    (h : ∀ v' w', OwnV w' B v' (l ++ m) → Below B w w' → w.grownBy w' v.ownBlock → (v' = .slice none 0 0 → v = .slice none 0 0) → K (a.put o.dst v') w') :
    if Region.wanted o (yielded ops a.tmps) = true then Oper.wp Tryd.prog o a w K Q else E := by
  have hw : Region.wanted o (yielded ops a.tmps) = true := by simp [Region.wanted, hgd]
  rw [if_pos hw]
  obtain ⟨i0, hi, hz0, hz1, hz2⟩ := info_parts infoE
  have hr' := hr
  obtain ⟨A, c, rfl, hc, hcell⟩ := hr'
  rcases A with _ | ad
  · have hm : m = [] := by
      rcases Nat.eq_zero_or_pos m.length with h0 | h0
      · exact List.eq_nil_of_length_eq_zero h0
      · obtain ⟨b, off, e, _⟩ := hcell h0
        cases e
    subst hm
    unfold Oper.wp execOp
    have hrun : (Builtin.append_ #[22, 22] o.type #[v, .slice none 0 c]).run Tryd.prog w = .ok v w := by
      rcases hown.2 with ⟨rfl, _⟩ | ⟨g, cap, cur, rfl, _, _, hnc, _⟩
      · simp [Builtin.append_, run_underlying Tryd.underlying22, Go.sizeOf, typeInfo, hi, Builtin.lenOf, Builtin.firstCells]
      · simp [Builtin.append_, run_underlying Tryd.underlying22, Go.sizeOf, typeInfo, hi, Builtin.lenOf, Builtin.firstCells, hnc, storeCells]
    simp only [ho, resolve, invoke, builtin, Sem.run_bind, Sem.run_pure, Result.andThen_ok, List.map_toArray, List.map_cons, List.map_nil, hs, hx, List.length_nil, hrun]
    exact h v w (by simpa using hown) (Below.refl _ _) (World.grownBy.refl _ _) (fun e => e)
  · refine wp_append_own _ s x 22 ho B 50 i0 _ 4 56 Tryd.underlying22 hi hz0 hz1 hz2 rfl (by decide) v l.length (cellsV l) hs hown ad m.length c (cellsV m) hx (cellsV_len m) (rdV_cells hr) (cellsV_one m) (by unfold maxLen; omega) hlen hB ?_
    intro v' w' h1 h2 h3
    exact h v' w' (by unfold OwnV; rw [cellsV_app, List.length_append]; exact h1) ((Below.refl B w).grown h2 hB (fun k hk => (World.ownsRow.lt hown k hk).1)) h2 (fun e => (h3.1 e).1)
set_option maxRecDepth 100000 in
theorem cloneE_is (v : Value) (X : List EV) (w : World) (hR : RdV w v X) (hlen : X.length * 56 ≤ 140737488355328) :
    Calls Tryd.prog 41 #[v] w fun e w' => ∃ v', e = .returned v' ∧ Below w.heap.size w w' ∧ ((v' = .slice none 0 0 ∧ X = []) ∨ ∃ g cap, v' = .slice (some ⟨g, 0, none⟩) X.length cap ∧ X.length ≤ cap ∧ w.heap.size ≤ g ∧ RowE w' g X) := by
  have hR' := hR
  obtain ⟨A, c, rfl, hlc, hcell⟩ := hR'
  rcases A with _ | ad
  · have hl : X = [] := by
      rcases Nat.eq_zero_or_pos X.length with h0 | h0
      · exact List.eq_nil_of_length_eq_zero h0
      · obtain ⟨b, off, e, _⟩ := hcell h0
        cases e
    refine (AnyE.slices_Clone_nil Tryd.cloneE X.length c w).mono ?_
    rintro e w' ⟨rfl, rfl⟩
    exact ⟨_, rfl, Below.refl _ _, .inl ⟨rfl, hl⟩⟩
  · clear hcell
    have q22 : ∀ (w : World) (a : Option Addr) (n c n' c' : Nat), (binOp .eql 22 (.slice a n c) (.slice none n' c')).run Tryd.prog w = .ok (.bool a.isNone) w := fun w a n c n' c' => Lib.run_eql_slice_nil w _ _ a n c n' c' Tryd.underlying22
    have hR2 := fun o => hR.below ((Below.refl _ w).alloc (Nat.le_refl _) o)
    go_enter Tryd.func41, Tryd.ntmps41
    go_wp2_with (at_builtin; refine wp_appV rfl (.tmp 5) (.tmp 6) rfl w.heap.size _ _ [] X rfl (OwnV.made w (Nat.le_refl _)) rfl (hR2 _) (by simpa using hlen) (by simp) ?_; intro v' w1 hown hb _ hn)
    go_ret
    have hn2 : v' ≠ .slice none 0 0 := fun e => by have := hn e; cases this
    rw [List.nil_append] at hown
    obtain ⟨g, cap, e1, e2, e3, e4⟩ := hown.row hn2
    exact ⟨v', rfl, below_allocT (Nat.le_refl _) hb, .inr ⟨g, cap, e1, e2, e3, e4⟩⟩
set_option maxRecDepth 100000 in
theorem cloneLb_is (v : Value) (l : List Lab) (w : World) (hR : RdL w v l) (hlen : l.length * 32 ≤ 140737488355328) :
    Calls Tryd.prog 42 #[v] w fun e w' => ∃ A c, e = .returned (.slice A l.length c) ∧ Below w.heap.size w w' ∧ RdL w' (.slice A l.length c) l ∧ (0 < l.length → ∃ b off, A = some ⟨b, off, none⟩ ∧ w.heap.size ≤ b) := by
  have hR' := hR
  obtain ⟨A, c, rfl, hlc, hcell⟩ := hR'
  rcases A with _ | ad
  · have hl : l = [] := by
      rcases Nat.eq_zero_or_pos l.length with h0 | h0
      · exact List.eq_nil_of_length_eq_zero h0
      · obtain ⟨b, off, e, _⟩ := hcell h0
        cases e
    refine (AnyE.slices_Clone_nil Tryd.cloneLb l.length c w).mono ?_
    rintro e w' ⟨rfl, rfl⟩
    subst hl
    exact ⟨none, 0, rfl, Below.refl _ _, RdL.nil _, fun h => absurd h (by simp)⟩
  · clear hcell
    have q22 : ∀ (w : World) (a : Option Addr) (n c n' c' : Nat), (binOp .eql 32 (.slice a n c) (.slice none n' c')).run Tryd.prog w = .ok (.bool a.isNone) w := fun w a n c n' c' => Lib.run_eql_slice_nil w _ _ a n c n' c' Tryd.underlying32
    have hR2 := fun o => hR.alloc o
    go_enter Tryd.func42, Tryd.ntmps42
    go_wp2_with (at_builtin; refine wp_appL rfl (.tmp 5) (.tmp 6) rfl w.heap.size _ _ [] l rfl (OwnL.made w (Nat.le_refl _)) rfl (hR2 _) (by simpa using hlen) (by simp) ?_; intro v' w1 hown hb hn)
    go_ret
    rw [List.nil_append] at hown
    have hrd := hown.rd
    rcases hown.2 with ⟨rfl, h0⟩ | ⟨g, cap, cur, rfl, hg, _⟩
    · obtain rfl : l = [] := List.eq_nil_of_length_eq_zero h0
      exact ⟨none, 0, rfl, below_allocT (Nat.le_refl _) hb, hrd, fun h => absurd h (by simp)⟩
    · exact ⟨_, cap, rfl, below_allocT (Nat.le_refl _) hb, hrd, fun _ => ⟨g, 0, rfl, hg⟩⟩
set_option maxHeartbeats 1000000 in
set_option maxRecDepth 100000 in
theorem insertion_none (f : Value) (w : World) : Calls Tryd.prog 67 #[.slice none 0 0, .int .i64 0, .int .i64 0, f] w fun e w' => e = .returned (.tuple #[]) ∧ Below w.heap.size w w' := by
  go_enter Tryd.func67, Tryd.ntmps67
  go_wp2
  go_loopw [8] (fun iv wr => iv = .int .i64 1 ∧ Below w.heap.size w wr) (fun _ _ => 0)
  case atStart => exact ⟨by go_num, Below.refl _ _⟩
  case round =>
    obtain ⟨rfl, hb⟩ := hrel
    go_wp2
    go_end0
    exact ⟨rfl, hb⟩
set_option maxHeartbeats 1000000 in
set_option maxRecDepth 100000 in
theorem stable_none (f : Nat) (w : World) : Calls Tryd.prog 44 #[.slice none 0 0, .int .i64 0, cmpF f] w fun e w' => e = .returned (.tuple #[]) ∧ Below w.heap.size w w' := by
  unfold cmpF
  go_enter Tryd.func44, Tryd.ntmps44
  go_wp2_with fail
  go_loopw [7, 8] (fun av cv wr => av = .int .i64 0 ∧ cv = .int .i64 20 ∧ Below w.heap.size w wr) (fun _ _ _ => 0)
  case atStart => exact ⟨rfl, rfl, Below.refl _ _⟩
  case round =>
    obtain ⟨rfl, rfl, hb⟩ := hrel
    go_wp2_with (go_at_call 67; refine (insertion_none _ _).mono ?_; rintro e w2 ⟨rfl, b2⟩; have hb2 := hb.trans (b2.mono hb.size))
    generalize wr = wz at *
    go_loopw [6] (fun kv wr => kv = .int .i64 20 ∧ Below w.heap.size w wr) (fun _ _ => 0)
    case atStart => exact ⟨rfl, hb2⟩
    case round =>
      obtain ⟨rfl, hb⟩ := hrel
      go_wp2_with fail
      go_end0
      exact ⟨rfl, hb⟩
set_option maxRecDepth 100000 in
theorem sortStable_is (b cap N : Nat) (X : List EV) (w : World) (hN : X.length = N) (hR : RowE w b X) (hlen : N ≤ 1152921504606846976) :
    Calls Tryd.prog 22 #[.slice (some ⟨b, 0, none⟩) N cap, cmpF 43] w fun e w' => e = .returned (.tuple #[]) ∧ (∃ M, RowE w' b M ∧ StableOf ltE X M) ∧ w.grownBy w' (some b) := by
  have h := stable_is b cap N X w hN hR hlen
  unfold cmpF at h ⊢
  have HN := hid hN
  clear hN
  go_enter Tryd.func22, Tryd.ntmps22
  go_wp2_with (go_at_call 44; refine h.mono ?_; rintro e w2 ⟨rfl, h2⟩)
  go_end0
  exact ⟨rfl, h2⟩
set_option maxRecDepth 100000 in
theorem sortStable_none (f : Nat) (w : World) : Calls Tryd.prog 22 #[.slice none 0 0, cmpF f] w fun e w' => e = .returned (.tuple #[]) ∧ Below w.heap.size w w' := by
  have h := stable_none f w
  unfold cmpF at h ⊢
  go_enter Tryd.func22, Tryd.ntmps22
  go_wp2_with (go_at_call 44; refine h.mono ?_; rintro e w2 ⟨rfl, h2⟩)
  go_end0
  exact ⟨rfl, h2⟩
end Go.Proofs.YtaoeabnpmpimgaaDoor
end
section
namespace Go.Icz
open Go.RowKit
def ltT (x y : Ent) : Bool := decide (cmpE x y < 0)
theorem ltT_ord : SWOrd ltT := by
  have h := ltE_ord
  exact ⟨fun x y h1 => h.asym (x, none, 0) (y, none, 0) h1, fun x y z h1 => h.neg (x, none, 0) (y, none, 0) (z, none, 0) h1⟩
theorem stable_map {X M : List EV} (h : StableOf ltE X M) : StableOf ltT (X.map (·.1)) (M.map (·.1)) := by
  refine ⟨List.pairwise_map.2 h.1, fun x => ?_⟩
  rw [List.filter_map, List.filter_map]
  have := h.2 (x, none, 0)
  exact congrArg (List.map (·.1)) this
/-- The entries sorted, equals as they stood; they can be read. -/
def SortedOut (l : List Ent) (w : World) (e : Ending) (w' : World) : Prop := ∃ v r, e = .returned v ∧ RdE w' v r ∧ StableOf ltT l r ∧ r.length = l.length ∧ Below w.heap.size w w'
end Go.Icz
namespace Go.Proofs.YtaoeabnpmpimgaaDoor
open Go.RowKit Go.Icz
set_option maxRecDepth 100000 in
theorem cloneE_some (ad : Addr) (c : Nat) (X : List EV) (w : World) (hR : RdV w (.slice (some ad) X.length c) X) (hlen : X.length * 56 ≤ 140737488355328) :
    Calls Tryd.prog 41 #[.slice (some ad) X.length c] w fun e w' => ∃ g cap, e = .returned (.slice (some ⟨g, 0, none⟩) X.length cap) ∧ Below w.heap.size w w' ∧ X.length ≤ cap ∧ w.heap.size ≤ g ∧ RowE w' g X := by
  have q22 : ∀ (w : World) (a : Option Addr) (n c n' c' : Nat), (binOp .eql 22 (.slice a n c) (.slice none n' c')).run Tryd.prog w = .ok (.bool a.isNone) w := fun w a n c n' c' => Lib.run_eql_slice_nil w _ _ a n c n' c' Tryd.underlying22
  have hR2 := fun o => hR.below ((Below.refl _ w).alloc (Nat.le_refl _) o)
  go_enter Tryd.func41, Tryd.ntmps41
  go_wp2_with (at_builtin; refine wp_appV rfl (.tmp 5) (.tmp 6) rfl w.heap.size _ _ [] X rfl (OwnV.made w (Nat.le_refl _)) rfl (hR2 _) (by simpa using hlen) (by simp) ?_; intro v' w1 hown hb _ hn)
  go_ret
  have hn2 : v' ≠ .slice none 0 0 := fun e => by have := hn e; cases this
  rw [List.nil_append] at hown
  obtain ⟨g, cap, rfl, e2, e3, e4⟩ := hown.row hn2
  exact ⟨g, cap, rfl, below_allocT (Nat.le_refl _) hb, e2, e3, e4⟩
set_option maxHeartbeats 4000000 in
set_option maxRecDepth 100000 in
theorem RSort_is (v : Value) (l : List Ent) (w : World) (hR : RdE w v l) (hz : ∀ x ∈ l, entZ x) (hlen : l.length * 56 ≤ 140737488351232) :
    Calls Tryd.prog 20 #[v] w (SortedOut l w) := by
  obtain ⟨X, hX, hV, hL⟩ := hR.places
  have hXl : X.length = l.length := by rw [← hX, List.length_map]
  have hV' := hV
  obtain ⟨A, c, rfl, hlc, hcell⟩ := hV'
  have HZ : Hid (∀ x ∈ l, entZ x) := hid hz
  clear hz hR
  rcases A with _ | ad
  · have hl : X = [] := by
      rcases Nat.eq_zero_or_pos X.length with h0 | h0
      · exact List.eq_nil_of_length_eq_zero h0
      · obtain ⟨b, off, e, _⟩ := hcell h0
        cases e
    subst hl
    have hl0 : l = [] := by rw [← hX]; rfl
    subst hl0
    have hC := fun w1 => AnyE.slices_Clone_nil Tryd.cloneE 0 c w1
    have hC2 : ∀ w1, Calls Tryd.prog 41 #[.slice none 0 c] w1 fun e w' => e = .returned (.slice none 0 0) ∧ w' = w1 := hC
    have hS := fun w1 => sortStable_none 43 w1
    unfold cmpF at hS
    clear hC hX hV hL hXl hcell HZ hlen
    go_enter Tryd.func20, Tryd.ntmps20
    go_wp2_with (first
      | (go_at_call 41; refine (hC2 _).mono ?_; rintro e w1 ⟨rfl, rfl⟩; clear hC2)
      | fail)
    have hb0 : Below w.heap.size w (w.alloc (.cells #[] 81)) := (Below.refl _ w).alloc (Nat.le_refl _) _
    go_loopw [10] (fun iv wr => iv = .int .i64 0 ∧ Below w.heap.size w wr) (fun _ _ => 0)
    case atStart => exact ⟨rfl, hb0⟩
    case round =>
      obtain ⟨rfl, hb⟩ := hrel
      go_wp2_with (first
        | (go_at_call 22; refine (hS _).mono ?_; rintro e w2 ⟨rfl, b2⟩; clear hS)
        | fail)
      go_ret
      exact ⟨_, [], rfl, ⟨none, 0, rfl, by simp, fun h => absurd h (by simp)⟩, StableOf.refl .nil, rfl, hb.trans (b2.mono hb.size)⟩
  · clear hcell
    have hV1 := fun o => hV.below ((Below.refl _ w).alloc (Nat.le_refl _) o)
    have hC := fun w1 (h : RdV w1 (.slice (some ad) X.length c) X) => cloneE_some ad c X w1 h (by omega)
    have HL := hid hL
    have HX := hid hX
    clear hV hL hX
    obtain ⟨n, hn⟩ : ∃ n, n = X.length := ⟨_, rfl⟩
    have HNX := hid hn
    have hn60 : n ≤ 1152921504606846976 := by omega
    have HLN : Hid (n = l.length) := hid (by omega)
    rw [← hn] at hC hV1 hlc ⊢
    clear hn hXl hlen
    go_enter Tryd.func20, Tryd.ntmps20
    go_wp2_with (first
      | (go_at_call 41; refine (hC _ (hV1 _)).mono ?_; rintro e w1 ⟨g, cap, rfl, b1, hnc, hg, r1⟩; clear hC hV1)
      | fail)
    have hb1 : Below w.heap.size w w1 := below_allocT (Nat.le_refl _) (b1.mono (by simp))
    have hgw : w.heap.size < g := by simp at hg; omega
    clear b1 hg
    go_loopw [10] (fun iv wr => ∃ (i : Nat) (Y : List EV), iv = .int .i64 i ∧ i ≤ n ∧ RowE wr g Y ∧ Hid (Y.map (·.1) = l) ∧ Hid (Y.length = n) ∧ Hid (∀ p ∈ Y, LabAt wr g p) ∧ Below w.heap.size w wr) (fun iv _ => n - (intOf iv).toNat)
    case atStart => exact ⟨0, X, rfl, by omega, r1, HX, hid HNX.out.symm, hid (fun p hp => (RdL.labAt (HL.out p hp) (by omega)).below hb1), hb1⟩
    case round =>
      obtain ⟨i, Y, rfl, hi, hr, HY, HYL, HLA, hbw⟩ := hrel
      by_cases hlt : i < n
      · have hlt' : (i : Int) < (n : Int) := by omega
        have hil : i < Y.length := by have := HYL.out; omega
        obtain ⟨c0, c1, c2, c3, f0, f1, f2, f3⟩ := hr.2 i hil
        obtain ⟨b0, hb0, hrl⟩ := HLA.out Y[i] (List.getElem_mem hil)
        have hxz := HZ.out (Y[i]).1 (by rw [← HY.out]; exact List.mem_map.2 ⟨_, List.getElem_mem hil, rfl⟩)
        have hcl := fun w2 (h : RdL w2 (.slice (Y[i]).2.1 (Y[i]).1.labs.length (Y[i]).2.2) (Y[i]).1.labs) => cloneLb_is _ (Y[i]).1.labs w2 h (by have := hxz.1; omega)
        have hgz := hr.1
        have HP : Hid (∀ w2 A' c', Below wr.heap.size wr w2 → RdL w2 (.slice A' (Y[i]).1.labs.length c') (Y[i]).1.labs → (0 < (Y[i]).1.labs.length → ∃ b off, A' = some ⟨b, off, none⟩ ∧ wr.heap.size ≤ b) →
            RowE (w2.setCell ⟨g, i * 4 + 2, none⟩ (.slice A' (Y[i]).1.labs.length c')) g (Y.set i ((Y[i]).1, A', c')) ∧ (Y.set i ((Y[i]).1, A', c')).map (·.1) = l ∧ (Y.set i ((Y[i]).1, A', c')).length = n ∧ (∀ p ∈ Y.set i ((Y[i]).1, A', c'), LabAt (w2.setCell ⟨g, i * 4 + 2, none⟩ (.slice A' (Y[i]).1.labs.length c')) g p)) := hid (fun w2 A' c' b2 r2 h2 => by
          refine ⟨(hr.below b2).putLab i hil A' c', ?_, by rw [List.length_set]; exact HYL.out, fun p hp => ?_⟩
          · rw [List.map_set]
            have : (Y.map (·.1)).set i (Y[i]).1 = Y.map (·.1) := by
              have h9 : (Y[i]).1 = (Y.map (·.1))[i]'(by rw [List.length_map]; exact hil) := by simp
              rw [h9]
              exact List.set_getElem_self _
            exact this.trans HY.out
          · refine LabAt.grown ?_ (grown_set _ _ _ _)
            rcases List.mem_or_eq_of_mem_set hp with hp | rfl
            · exact (HLA.out p hp).below b2
            · rcases Nat.eq_zero_or_pos (Y[i]).1.labs.length with h0 | h0
              · exact ⟨0, fun h1 => absurd h1 (by simp only; omega), r2⟩
              · obtain ⟨b, off, hA, hbz⟩ := h2 h0
                exact ⟨b, fun _ => ⟨by omega, off, hA⟩, r2⟩)
        have K : ∀ w2, Below wr.heap.size wr w2 → w2.cell? ⟨g, i * 4 + 2, none⟩ = some (.slice (Y[i]).2.1 (Y[i]).1.labs.length (Y[i]).2.2) ∧ w2.frozen? ⟨g, i * 4 + 2, none⟩ = false := fun w2 h => ⟨(h.cell (p := ⟨g, i * 4 + 2, none⟩) hgz).trans c2, (h.frozen (p := ⟨g, i * 4 + 2, none⟩) hgz).trans f2⟩
        clear c0 c1 c3 f0 f1 f2 f3 hb0 hxz hr HLA HY HYL
        generalize Y[i] = y at *
        clear hil
        obtain ⟨x, Ax, cx⟩ := y
        simp only at *
        go_wp2_with (first
          | (go_at_call 42; refine (hcl _ hrl).mono ?_; rintro e w2 ⟨A2, c2', rfl, b2, r2, h2⟩; obtain ⟨k2, k3⟩ := K _ b2; have HP2 := hid (HP.out _ _ _ b2 r2 h2); have hb2 := (hbw.trans (b2.mono hbw.size)); clear hcl hrl K HP c2 r2 h2)
          | fail)
        go_roundw
        case rel => exact ⟨i + 1, Y.set i (x, A2, c2'), by go_num, by omega, HP2.out.1, hid HP2.out.2.1, hid HP2.out.2.2.1, hid HP2.out.2.2.2, hb2.setCell (show w.heap.size ≤ g by omega) _⟩
        case measure => simp [intOf]; omega
      · have hge : ¬ (i : Int) < (n : Int) := by omega
        have hS := fun w2 (h : RowE w2 g Y) => sortStable_is g cap n Y w2 HYL.out h hn60
        unfold cmpF at hS
        have HF : Hid (∀ w2 M, RowE w2 g M → StableOf ltE Y M → wr.grownBy w2 (some g) → RdE w2 (.slice (some ⟨g, 0, none⟩) n cap) (M.map (·.1)) ∧ StableOf ltT l (M.map (·.1)) ∧ (M.map (·.1)).length = l.length) := hid (fun w2 M r2 s2 g2 => by
          have hml := StableOf.length ltE_ord s2
          have e1 : M.length = n := by rw [hml]; exact HYL.out
          have h1 := RowE.rdE (cap := cap) r2 (by rw [e1]; exact hnc) (fun p hp => (HLA.out p ((s2.mem ltE_ord).1 hp)).grown g2)
          rw [e1] at h1
          have h2 := stable_map s2
          rw [HY.out] at h2
          exact ⟨h1, h2, by rw [List.length_map, e1]; exact HLN.out⟩)
        have hgz := hr.1
        clear HY HYL HLA
        go_wp2_with (first
          | (go_at_call 22; refine (hS _ hr).mono ?_; rintro e w2 ⟨rfl, ⟨M, r2, s2⟩, g2⟩; clear hS hr)
          | fail)
        go_ret
        obtain ⟨k1, k2, k3⟩ := HF.out _ _ r2 s2 g2
        exact ⟨_, _, rfl, k1, k2, k3, hbw.grown g2 hbw.size (fun k hk => by injection hk with hk; omega)⟩
end Go.Proofs.YtaoeabnpmpimgaaDoor
end
section
namespace Go.Icz
open Go.RowKit
theorem RdV.one (w : World) (x : EV) (n : Nat) (hn : w.heap.size = n) : RdV (w.alloc (.cells #[.int .i64 x.1.seq, .int .i64 x.1.time, .slice x.2.1 x.1.labs.length x.2.2, .string ⟨x.1.line.toArray⟩] 50)) (.slice (some ⟨n, 0, none⟩) 1 1) [x] := by
  subst hn
  have h := heap_alloc_new w (.cells #[.int .i64 x.1.seq, .int .i64 x.1.time, .slice x.2.1 x.1.labs.length x.2.2, .string ⟨x.1.line.toArray⟩] 50)
  refine ⟨_, 1, rfl, by simp, fun _ => ⟨w.heap.size, 0, rfl, by simp, fun j hj => ?_⟩⟩
  match j, hj with
  | 0, _ =>
    refine ⟨?_, ?_, ?_, ?_⟩ <;> (rw [cell_of_row _ _ _ _ _ _ h]; rfl)
theorem RdV.far {w w' : World} {row : Option Nat} (hg : w.grownBy w' row) {b off n c : Nat} {m : List EV} (h : RdV w (.slice (some ⟨b, off, none⟩) n c) m) (hb : some b ≠ row) : RdV w' (.slice (some ⟨b, off, none⟩) n c) m := by
  obtain ⟨A, c', hv, hc, hr⟩ := h
  refine ⟨A, c', hv, hc, fun h0 => ?_⟩
  obtain ⟨b', off', hA, hlt, hcell⟩ := hr h0
  subst hA
  injection hv with e1 e2 e3
  injection e1 with e1
  injection e1 with e1 e4
  subst e1
  refine ⟨b, off', rfl, Nat.lt_of_lt_of_le hlt hg.size, fun j hj => ?_⟩
  obtain ⟨h0, h1, h2, h3⟩ := hcell j hj
  exact ⟨(hg.cell_far ⟨b, off' + j * 4, none⟩ hlt hb).trans h0, (hg.cell_far ⟨b, off' + j * 4 + 1, none⟩ hlt hb).trans h1, (hg.cell_far ⟨b, off' + j * 4 + 2, none⟩ hlt hb).trans h2, (hg.cell_far ⟨b, off' + j * 4 + 3, none⟩ hlt hb).trans h3⟩
theorem RdV.part {w : World} {A : Option Addr} {c : Nat} {l : List EV} (h : RdV w (.slice A l.length c) l) (lo hi : Nat) (h1 : lo ≤ hi) (h2 : hi ≤ l.length) : RdV w (sliced A lo hi c 4) ((l.drop lo).take (hi - lo)) := by
  obtain ⟨A', c', hv, hc, hr⟩ := h
  injection hv with e1 e2 e3
  subst e1 e3
  unfold sliced
  have hl : ((l.drop lo).take (hi - lo)).length = hi - lo := by rw [List.length_take, List.length_drop]; omega
  refine ⟨_, c - lo, by rw [hl], by rw [hl]; omega, fun h0 => ?_⟩
  rw [hl] at h0
  obtain ⟨b0, off, rfl, hlt, hcell⟩ := hr (by omega)
  refine ⟨b0, off + lo * 4, by rw [if_neg (by omega)]; simp [add_flat], hlt, fun j hj => ?_⟩
  rw [hl] at hj
  have h := hcell (lo + j) (by omega)
  rw [Nat.add_mul, ← Nat.add_assoc] at h
  simp only [List.getElem_take, List.getElem_drop]
  exact h
theorem RdV.rdE {w : World} {v : Value} {X : List EV} (h : RdV w v X) (hl : ∀ p ∈ X, RdL w (.slice p.2.1 p.1.labs.length p.2.2) p.1.labs) : RdE w v (X.map (·.1)) := by
  obtain ⟨A, c, rfl, hc, hr⟩ := h
  refine ⟨A, c, by rw [List.length_map], by rw [List.length_map]; exact hc, fun h0 => ?_⟩
  rw [List.length_map] at h0
  obtain ⟨b, off, rfl, hlt, hcell⟩ := hr h0
  refine ⟨b, off, rfl, hlt, fun j hj => ?_⟩
  rw [List.length_map] at hj
  obtain ⟨c0, c1, c2, c3⟩ := hcell j hj
  simp only [List.getElem_map]
  exact ⟨_, _, c0, c1, c2, c3, hl _ (List.getElem_mem hj)⟩
/-- One entry more, put behind those that it does not stand ahead of. -/
theorem ins_stable {L O : List EV} {x : EV} {k : Nat} (h : StableOf ltE L O) (hk : k ≤ O.length) (h1 : ∀ j (hj : j < O.length), k ≤ j → ltE x O[j] = true) (h2 : ∀ (_h0 : 0 < k) (hj : k - 1 < O.length), ltE x O[k - 1] = false) :
    StableOf ltE (L ++ [x]) (O.take k ++ x :: O.drop k) := by
  have hs : SortedL ltE (O.take k ++ O.drop k) := by rw [List.take_append_drop]; exact h.1
  have a := StableOf.last ltE_ord (y := x) hs (fun y hy => ?_) (fun y hy => ?_)
  · rw [List.take_append_drop] at a
    exact StableOf.pieces h (StableOf.refl (List.pairwise_singleton _ _)) a
  · obtain ⟨j, hj, e⟩ := List.mem_iff_getElem.1 hy
    rw [List.length_take] at hj
    rw [List.getElem_take] at e
    subst e
    have h3 := h2 (by omega) (by omega)
    rcases Nat.lt_or_ge j (k - 1) with h4 | h4
    · have h5 := List.pairwise_iff_getElem.1 h.1 j (k - 1) (by omega) (by omega) h4
      exact SWOrd.le_trans ltE_ord h5 h3
    · have h6 : j = k - 1 := by omega
      subst h6
      exact h3
  · obtain ⟨j, hj, e⟩ := List.mem_iff_getElem.1 hy
    rw [List.length_drop] at hj
    rw [List.getElem_drop] at e
    subst e
    exact h1 (k + j) (by omega) (by omega)
end Go.Icz
namespace Go.Proofs.YtaoeabnpmpimgaaDoor
open Go.RowKit Go.Icz
set_option maxRecDepth 100000 in
theorem run_topV {A : Option Addr} {n c hi : Nat} (h2 : hi ≤ c) (wx : World) : (Instr.slice 22 (.slice A n c) none (some (.int .i64 (hi : Int))) none).run Tryd.prog wx = .ok (sliced A 0 hi c 4) wx := by
  have := run_slice_h (P := Tryd.prog) (w := wx) 22 A n c Tryd.underlying22 .i64 (hi : Int) (by omega) (by omega)
  rw [this]
  have hz : (sizeOf (Tryd.prog.elem 22)).run Tryd.prog wx = .ok 4 wx := by go_simp
  rw [hz]
  simp [Result.andThen]
set_option maxRecDepth 100000 in
theorem run_fromV {A : Option Addr} {n c s : Nat} (h : s ≤ n) (wx : World) : (Instr.slice 22 (.slice A n c) (some (.int .i64 (s : Int))) none none).run Tryd.prog wx = .ok (sliced A s n c 4) wx := by
  have := run_slice_l (P := Tryd.prog) (w := wx) 22 A n c Tryd.underlying22 .i64 (s : Int) (by omega) (by omega)
  rw [this]
  have hz : (sizeOf (Tryd.prog.elem 22)).run Tryd.prog wx = .ok 4 wx := by go_simp
  rw [hz]
  simp [Result.andThen]
set_option maxHeartbeats 1000000 in
set_option maxRecDepth 100000 in
theorem R3Before_is (x y : Ent) (A A' : Option Addr) (c c' : Nat) (W : World) : Calls Tryd.prog 52 #[entV x A c, entV y A' c'] W fun e w' => e = .returned (.bool (ltT x y)) ∧ Below W.heap.size W w' := by
  have hv : ltT x y = (decide (x.time < y.time) || (x.time == y.time && decide (x.seq < y.seq))) := by
    unfold ltT cmpE or2 icmp
    by_cases h1 : x.time < y.time
    · simp [h1]
    · by_cases h2 : y.time < x.time
      · have h3 : ¬ x.time = y.time := by omega
        simp [h1, h2, h3]
      · have h3 : x.time = y.time := by omega
        by_cases h4 : x.seq < y.seq
        · simp [h3, h4]
        · by_cases h5 : y.seq < x.seq
          · simp [h3, h4, h5]
          · simp [h3, h4, h5]
  rw [hv]
  have hb : Below W.heap.size W ((W.alloc (.cells #[.int .i64 x.seq, .int .i64 x.time, .slice A x.labs.length c, .string ⟨x.line.toArray⟩] 50)).alloc (.cells #[.int .i64 y.seq, .int .i64 y.time, .slice A' y.labs.length c', .string ⟨y.line.toArray⟩] 50)) := ((Below.refl _ W).alloc (Nat.le_refl _) _).alloc (by simp) _
  clear hv
  unfold entV
  obtain ⟨xs, xt, xl, xi⟩ := x
  obtain ⟨ys, yt, yl, yi⟩ := y
  simp only at *
  by_cases h1 : xt < yt
  · go_enter Tryd.func52, Tryd.ntmps52
    go_wp2_with fail
    go_ret
    simp [h1, hb]
  · by_cases h3 : xt = yt
    · subst h3
      have h3' : (xt == xt) = true := by simp
      by_cases h4 : xs < ys
      · go_enter Tryd.func52, Tryd.ntmps52
        go_wp2_with fail
        go_ret
        exact ⟨by simp [h1, h4], hb⟩
      · go_enter Tryd.func52, Tryd.ntmps52
        go_wp2_with fail
        go_ret
        exact ⟨by simp [h1, h4], hb⟩
    · have h3' : (xt == yt) = false := by simp [h3]
      go_enter Tryd.func52, Tryd.ntmps52
      go_wp2_with fail
      go_ret
      simp [h1, h3, hb]
set_option maxHeartbeats 8000000 in
set_option maxRecDepth 100000 in
theorem R3Sort_is (v : Value) (l : List Ent) (w : World) (hR : RdE w v l) (hlen : l.length * 56 ≤ 140737488351232) :
    Calls Tryd.prog 29 #[v] w (SortedOut l w) := by
  obtain ⟨X, hX, hV, hL⟩ := hR.places
  have hXl : X.length = l.length := by rw [← hX, List.length_map]
  obtain ⟨A, c, rfl, hlc, hcell⟩ := hV
  have HL := hid hL
  have HX := hid hX
  clear hR hL hX
  obtain ⟨N, hn⟩ : ∃ N, N = X.length := ⟨_, rfl⟩
  have HNX := hid hn
  have hn60 : N * 56 ≤ 140737488351232 := by omega
  have HLN : Hid (N = l.length) := hid (by omega)
  rw [← hn] at hlc ⊢
  have hcell : 0 < N → _ := fun h => hcell (by rw [← hn]; exact h)
  clear hn hXl hlen
  go_enter Tryd.func29, Tryd.ntmps29
  go_wp2_with fail
  go_loopw [3, 4] (fun ov iv wr => ∃ (i : Nat) (O : List EV), iv = .int .i64 i ∧ i ≤ N ∧ OwnV wr w.heap.size ov O ∧ Hid (O.length = i) ∧ Hid (StableOf ltE (X.take i) O) ∧ O.length ≤ N ∧ Below w.heap.size w wr) (fun _ iv _ => N - (intOf iv).toNat)
  case atStart => exact ⟨0, [], rfl, by omega, OwnV.nil _ _, hid rfl, hid (by rw [List.take_zero]; exact StableOf.refl .nil), by simp, Below.refl _ _⟩
  case round =>
    obtain ⟨i, O, rfl, hi, ho, HOL, HS, hON, hbw⟩ := hrel
    by_cases hlt : i < N
    · have hlt' : (i : Int) < (N : Int) := by omega
      have hiX : i < X.length := by have := HNX.out; omega
      obtain ⟨b, off, rfl, hb, hcl⟩ := hcell (by omega)
      have hcl := hcl i hiX
      have HTK : Hid (X.take (i + 1) = X.take i ++ [X[i]]) := hid (List.take_succ_eq_append_getElem hiX)
      have hON1 : O.length + 1 ≤ N := by have := HOL.out; omega
      generalize X[i] = x at *
      clear hcell hiX
      have KX : ∀ w', Below wr.heap.size wr w' → w'.cell? ⟨b, off + i * 4, none⟩ = some (.int .i64 x.1.seq) ∧ w'.cell? ⟨b, off + i * 4 + 1, none⟩ = some (.int .i64 x.1.time) ∧ w'.cell? ⟨b, off + i * 4 + 2, none⟩ = some (.slice x.2.1 x.1.labs.length x.2.2) ∧ w'.cell? ⟨b, off + i * 4 + 3, none⟩ = some (.string ⟨x.1.line.toArray⟩) := fun w' h => by
        have hbb := hbw.trans (h.mono hbw.size)
        exact ⟨(hbb.cell (p := ⟨b, off + i * 4, none⟩) hb).trans hcl.1, (hbb.cell (p := ⟨b, off + i * 4 + 1, none⟩) hb).trans hcl.2.1, (hbb.cell (p := ⟨b, off + i * 4 + 2, none⟩) hb).trans hcl.2.2.1, (hbb.cell (p := ⟨b, off + i * 4 + 3, none⟩) hb).trans hcl.2.2.2⟩
      have hbz := Nat.lt_of_lt_of_le hb hbw.size
      have ho2 := ho.rd
      obtain ⟨AO, co, rfl, hoc, hocell⟩ := id ho2
      have FIN0 : Hid (∀ k, k ≤ O.length → (∀ j (hj : j < O.length), k ≤ j → ltE x O[j] = true) → (∀ (_h0 : 0 < k) (hj : k - 1 < O.length), ltE x O[k - 1] = false) →
          Hid ((O.take k ++ x :: O.drop k).length = i + 1) ∧ Hid (StableOf ltE (X.take (i + 1)) (O.take k ++ x :: O.drop k)) ∧ (O.take k ++ x :: O.drop k).length ≤ N) := hid (fun k hk h1 h2 => by
        have e1 : (O.take k ++ x :: O.drop k).length = i + 1 := by
          have := HOL.out
          rw [List.length_append, List.length_cons, List.length_take, List.length_drop]
          omega
        exact ⟨hid e1, hid (by rw [HTK.out]; exact ins_stable HS.out hk h1 h2), by rw [e1]; omega⟩)
      clear hcl HS HOL HTK ho
      generalize wr = wo at *
      go_wp2_with fail
      go_loopw [5] (fun kv ws => ∃ k : Nat, kv = .int .i64 (k : Int) ∧ k ≤ O.length ∧ Below wo.heap.size wo ws ∧ Hid (∀ j (hj : j < O.length), k ≤ j → ltE x O[j] = true)) (fun kv _ => (intOf kv).toNat)
      case atStart => exact ⟨O.length, rfl, by omega, Below.refl _ _, hid (fun j hj h => by omega)⟩
      case round =>
        obtain ⟨k, rfl, hk, hbs, HK⟩ := hrel
        by_cases hk0 : k = 0
        · have FIN := hid (FIN0.out k hk HK.out (fun h => absurd h (by omega)))
          subst hk0
          clear HK FIN0
          go_wp2_with fail
          refine wp_region_held_drew (S := fun _ => True) (by kernel_rfl) trivial (fun hHeld => ?_)
          refine takeAt (i := 0) (d := 14) (v := .int .i64 0) rfl rfl (by kernel_rfl) (by kernel_rfl) (by kernel_rfl) (fun _ _ _ h => h) (Or.inl ⟨by rfl, fun w hSw => by go_simp⟩) hHeld ?_
          simp only [List.setIfInBounds_toArray, List.set_cons_zero, List.set_cons_succ]
          refine takeAt (i := 1) (d := 15) (v := .bool false) rfl rfl (by kernel_rfl) (by kernel_rfl) (by kernel_rfl) (fun _ _ _ h => h) (Or.inl ⟨by rfl, fun w hSw => by go_simp⟩) hHeld ?_
          simp only [List.setIfInBounds_toArray, List.set_cons_zero, List.set_cons_succ]
          refine takeAt (i := 2) (d := 16) (v := .bool false) rfl rfl (by kernel_rfl) (by kernel_rfl) (by kernel_rfl) (fun _ _ _ h => h) (Or.inl ⟨by rfl, fun w hSw => by go_simp⟩) hHeld ?_
          simp only [List.setIfInBounds_toArray, List.set_cons_zero, List.set_cons_succ]
          refine takeAt (i := 3) (d := 17) (v := undef) rfl rfl (by kernel_rfl) (by kernel_rfl) (by kernel_rfl) (fun _ _ _ h => h) (Or.inr ⟨by rfl, rfl⟩) hHeld ?_
          simp only [List.setIfInBounds_toArray, List.set_cons_zero, List.set_cons_succ]
          refine takeAt (i := 4) (d := 18) (v := undef) rfl rfl (by kernel_rfl) (by kernel_rfl) (by kernel_rfl) (fun _ _ _ h => h) (Or.inr ⟨by rfl, rfl⟩) hHeld ?_
          simp only [List.setIfInBounds_toArray, List.set_cons_zero, List.set_cons_succ]
          refine takeAt (i := 5) (d := 19) (v := undef) rfl rfl (by kernel_rfl) (by kernel_rfl) (by kernel_rfl) (fun _ _ _ h => h) (Or.inr ⟨by rfl, rfl⟩) hHeld ?_
          simp only [List.setIfInBounds_toArray, List.set_cons_zero, List.set_cons_succ]
          refine takeAt (i := 6) (d := 20) (v := undef) rfl rfl (by kernel_rfl) (by kernel_rfl) (by kernel_rfl) (fun _ _ _ h => h) (Or.inr ⟨by rfl, rfl⟩) hHeld ?_
          simp only [List.setIfInBounds_toArray, List.set_cons_zero, List.set_cons_succ]
          refine takeAt (i := 7) (d := 21) (v := undef) rfl rfl (by kernel_rfl) (by kernel_rfl) (by kernel_rfl) (fun _ _ _ h => h) (Or.inr ⟨by rfl, rfl⟩) hHeld ?_
          simp only [List.setIfInBounds_toArray, List.set_cons_zero, List.set_cons_succ]
          refine takeAt (i := 8) (d := 22) (v := undef) rfl rfl (by kernel_rfl) (by kernel_rfl) (by kernel_rfl) (fun _ _ _ h => h) (Or.inr ⟨by rfl, rfl⟩) hHeld ?_
          simp only [List.setIfInBounds_toArray, List.set_cons_zero, List.set_cons_succ]
          refine takeAt (i := 9) (d := 23) (v := undef) rfl rfl (by kernel_rfl) (by kernel_rfl) (by kernel_rfl) (fun _ _ _ h => h) (Or.inr ⟨by rfl, rfl⟩) hHeld ?_
          simp only [List.setIfInBounds_toArray, List.set_cons_zero, List.set_cons_succ]
          refine takeAt (i := 10) (d := 24) (v := undef) rfl rfl (by kernel_rfl) (by kernel_rfl) (by kernel_rfl) (fun _ _ _ h => h) (Or.inr ⟨by rfl, rfl⟩) hHeld ?_
          simp only [List.setIfInBounds_toArray, List.set_cons_zero, List.set_cons_succ]
          refine takeAt (i := 11) (d := 25) (v := undef) rfl rfl (by kernel_rfl) (by kernel_rfl) (by kernel_rfl) (fun _ _ _ h => h) (Or.inr ⟨by rfl, rfl⟩) hHeld ?_
          simp only [List.setIfInBounds_toArray, List.set_cons_zero, List.set_cons_succ]
          refine takeAt (i := 12) (d := 26) (v := undef) rfl rfl (by kernel_rfl) (by kernel_rfl) (by kernel_rfl) (fun _ _ _ h => h) (Or.inr ⟨by rfl, rfl⟩) hHeld ?_
          simp only [List.setIfInBounds_toArray, List.set_cons_zero, List.set_cons_succ]
          refine takeAt (i := 13) (d := 27) (v := .bool false) rfl rfl (by kernel_rfl) (by kernel_rfl) (by kernel_rfl) (fun _ _ _ h => h) (Or.inl ⟨by rfl, fun w hSw => by go_simp⟩) hHeld ?_
          simp only [List.setIfInBounds_toArray, List.set_cons_zero, List.set_cons_succ]
          refine wpAnyH_done (by kernel_rfl) ?_ _
          go_wp2_with fail
          have hs1 : ∀ wx, (Instr.slice 22 (.slice AO O.length co) none (some (.int .i64 (0 : Int))) none).run Tryd.prog wx = .ok (sliced AO 0 0 co 4) wx := fun wx => run_topV (hi := 0) (by omega) wx
          have hs2 : ∀ wx, (Instr.slice 22 (.slice AO O.length co) (some (.int .i64 (0 : Int))) none none).run Tryd.prog wx = .ok (sliced AO 0 O.length co 4) wx := fun wx => run_fromV (s := 0) (by omega) wx
          have r1 := (ho2.below hbs).part 0 0 (by omega) (by omega)
          have r2 := (ho2.below hbs).part 0 O.length (by omega) (Nat.le_refl _)
          rw [Nat.sub_zero, List.drop_zero] at r1 r2
          rw [List.take_of_length_le (Nat.le_refl _)] at r2
          generalize sliced AO 0 0 co 4 = v1 at *
          generalize sliced AO 0 O.length co 4 = v2 at *
          obtain ⟨hx0, hx1, hx2, hx3⟩ := KX _ hbs
          have hbs3 := Nat.lt_of_lt_of_le hbz hbs.size
          have hbs0 := Nat.le_trans hbw.size hbs.size
          refine wp_region_held_drew (S := fun w' => Below wr.heap.size wr w') (by kernel_rfl) (Below.refl _ _).drew.drew (fun hHeld => ?_)
          refine takeAt (i := 1) (d := 31) (v := .slice AO O.length co) rfl rfl (by kernel_rfl) (by kernel_rfl) (by kernel_rfl) (fun _ _ _ h => h) (Or.inl ⟨by rfl, fun w hSw => by go_simp⟩) hHeld ?_
          simp only [List.setIfInBounds_toArray, List.set_cons_zero, List.set_cons_succ]
          refine takeAt (i := 2) (d := 32) (v := .int .i64 0) rfl rfl (by kernel_rfl) (by kernel_rfl) (by kernel_rfl) (fun _ _ _ h => h) (Or.inl ⟨by rfl, fun w hSw => by go_simp⟩) hHeld ?_
          simp only [List.setIfInBounds_toArray, List.set_cons_zero, List.set_cons_succ]
          refine takeAt (i := 3) (d := 33) (v := v1) rfl rfl (by kernel_rfl) (by kernel_rfl) (by kernel_rfl) (fun _ _ _ h => h) (Or.inl ⟨by rfl, fun w hSw => by go_simp⟩) hHeld ?_
          simp only [List.setIfInBounds_toArray, List.set_cons_zero, List.set_cons_succ]
          refine takeAt (i := 5) (d := 35) (v := .slice (some ⟨b, off, none⟩) N c) rfl rfl (by kernel_rfl) (by kernel_rfl) (by kernel_rfl) (fun _ _ _ h => h) (Or.inl ⟨by rfl, fun w hSw => by go_simp⟩) hHeld ?_
          simp only [List.setIfInBounds_toArray, List.set_cons_zero, List.set_cons_succ]
          refine takeAt (i := 6) (d := 36) (v := .int .i64 (i : Int)) rfl rfl (by kernel_rfl) (by kernel_rfl) (by kernel_rfl) (fun _ _ _ h => h) (Or.inl ⟨by rfl, fun w hSw => by go_simp⟩) hHeld ?_
          simp only [List.setIfInBounds_toArray, List.set_cons_zero, List.set_cons_succ]
          refine takeAt (i := 7) (d := 37) (v := .pointer (some ⟨b, off + i * 4, none⟩)) rfl rfl (by kernel_rfl) (by kernel_rfl) (by kernel_rfl) (fun _ _ _ h => h) (Or.inl ⟨by rfl, fun w hSw => by go_simp⟩) hHeld ?_
          simp only [List.setIfInBounds_toArray, List.set_cons_zero, List.set_cons_succ]
          refine takeAt (i := 8) (d := 38) (v := .agg #[.int .i64 x.1.seq, .int .i64 x.1.time, .slice x.2.1 x.1.labs.length x.2.2, .string ⟨x.1.line.toArray⟩]) rfl rfl (by kernel_rfl) (by kernel_rfl) (by kernel_rfl) (fun _ _ _ h => h) (Or.inl ⟨by rfl, fun w hSw => by have g0 := (hSw.cell (p := ⟨b, off + i * 4, none⟩) hbs3).trans hx0; have g1 := (hSw.cell (p := ⟨b, off + i * 4 + 1, none⟩) hbs3).trans hx1; have g2 := (hSw.cell (p := ⟨b, off + i * 4 + 2, none⟩) hbs3).trans hx2; have g3 := (hSw.cell (p := ⟨b, off + i * 4 + 3, none⟩) hbs3).trans hx3; go_simp⟩) hHeld ?_
          simp only [List.setIfInBounds_toArray, List.set_cons_zero, List.set_cons_succ]
          refine takeAt (i := 11) (d := 41) (v := .slice AO O.length co) rfl rfl (by kernel_rfl) (by kernel_rfl) (by kernel_rfl) (fun _ _ _ h => h) (Or.inl ⟨by rfl, fun w hSw => by go_simp⟩) hHeld ?_
          simp only [List.setIfInBounds_toArray, List.set_cons_zero, List.set_cons_succ]
          refine takeAt (i := 12) (d := 42) (v := .int .i64 0) rfl rfl (by kernel_rfl) (by kernel_rfl) (by kernel_rfl) (fun _ _ _ h => h) (Or.inl ⟨by rfl, fun w hSw => by go_simp⟩) hHeld ?_
          simp only [List.setIfInBounds_toArray, List.set_cons_zero, List.set_cons_succ]
          refine takeAt (i := 13) (d := 43) (v := v2) rfl rfl (by kernel_rfl) (by kernel_rfl) (by kernel_rfl) (fun _ _ _ h => h) (Or.inl ⟨by rfl, fun w hSw => by go_simp⟩) hHeld ?_
          simp only [List.setIfInBounds_toArray, List.set_cons_zero, List.set_cons_succ]
          refine wpAnyH_ready (rs := [0, 9]) (by kernel_rfl) (by simp) ?_
          refine (AllReadyH.cons (o := { dst := some 30, op := Go.Op.buildSlice 22 0 #[], type := 22, pos := "ref.go:115", after := #[], guard := none }) rfl (fun K hK => ?_) (AllReadyH.cons (o := { dst := some 39, op := Go.Op.buildSlice 22 1 #[(0, Go.Operand.tmp 38)], type := 22, pos := "ref.go:115", after := #[{ on := 8, ground := Go.Ground.data }], guard := none }) rfl (fun K hK => ?_) AllReadyH.nil))
          · rw [if_pos (by rfl)]
            go_simp
            refine hK.out _ _ (hHeld.alloc (hHeld.size) _) (fun hHeld1 => ?_)
            clear hK K
            refine wpAnyH_ready (rs := [4, 9]) (by kernel_rfl) (by simp) ?_
            refine (AllReadyH.cons (o := { dst := some 34, op := Go.Op.call { callee := Go.Callee.builtin Go.Builtin.append, args := #[Go.Operand.tmp 30, Go.Operand.tmp 33], argTypes := #[22, 22] }, type := 22, pos := "ref.go:115", after := #[{ on := 0, ground := Go.Ground.data }, { on := 3, ground := Go.Ground.data }], guard := none }) rfl (fun K hK => ?_) (AllReadyH.cons (o := { dst := some 39, op := Go.Op.buildSlice 22 1 #[(0, Go.Operand.tmp 38)], type := 22, pos := "ref.go:115", after := #[{ on := 8, ground := Go.Ground.data }], guard := none }) rfl (fun K hK => ?_) AllReadyH.nil))
            · refine step_appV rfl (.tmp 30) (.tmp 33) rfl wr.heap.size _ _ [] (O.take 0) (by simp [Act.eval]) (OwnV.made wr.drew.drew (Nat.le_refl _)) (by simp [Act.eval]) (r1.below hHeld1) (by first | (simp; done) | (simp; omega)) hHeld1.size ?_
              intro v3 w3 o3 b3 g3 _
              refine hK.out _ _ (hHeld1.trans b3) (fun hHeld2 => ?_)
              clear hK K
              simp only [Act.put, List.setIfInBounds_toArray, List.set_cons_zero, List.set_cons_succ]
              refine wpAnyH_ready (rs := [9]) (by kernel_rfl) (by simp) ?_
              refine (AllReadyH.cons (o := { dst := some 39, op := Go.Op.buildSlice 22 1 #[(0, Go.Operand.tmp 38)], type := 22, pos := "ref.go:115", after := #[{ on := 8, ground := Go.Ground.data }], guard := none }) rfl (fun K hK => ?_) AllReadyH.nil)
              rw [if_pos (by rfl)]
              go_simp
              refine hK.out _ _ (hHeld2.alloc (hHeld2.size) _) (fun hHeld3 => ?_)
              clear hK K
              refine wpAnyH_ready (rs := [10]) (by kernel_rfl) (by simp) ?_
              refine (AllReadyH.cons (o := { dst := some 40, op := Go.Op.call { callee := Go.Callee.builtin Go.Builtin.append, args := #[Go.Operand.tmp 34, Go.Operand.tmp 39], argTypes := #[22, 22] }, type := 22, pos := "ref.go:115", after := #[{ on := 4, ground := Go.Ground.data }, { on := 9, ground := Go.Ground.data }, { on := 4, ground := Go.Ground.chain }], guard := none }) rfl (fun K hK => ?_) AllReadyH.nil)
              refine step_appV rfl (.tmp 34) (.tmp 39) rfl wr.heap.size _ _ _ [x] (by simp [Act.eval]) (o3.alloc _) (by simp [Act.eval]) (RdV.one w3 x _ rfl) (by first | (simp; done) | (simp; omega)) hHeld3.size ?_
              intro v4 w4 o4 b4 g4 _
              refine hK.out _ _ (hHeld3.trans b4) (fun hHeldX => ?_)
              clear hK K
              simp only [Act.put, List.setIfInBounds_toArray, List.set_cons_zero, List.set_cons_succ]
              refine wpAnyH_ready (rs := [14]) (by kernel_rfl) (by simp) ?_
              refine (AllReadyH.cons (o := { dst := some 44, op := Go.Op.call { callee := Go.Callee.builtin Go.Builtin.append, args := #[Go.Operand.tmp 40, Go.Operand.tmp 43], argTypes := #[22, 22] }, type := 22, pos := "ref.go:115", after := #[{ on := 10, ground := Go.Ground.data }, { on := 13, ground := Go.Ground.data }, { on := 10, ground := Go.Ground.chain }], guard := none }) rfl (fun K hK => ?_) AllReadyH.nil)
              refine step_appV rfl (.tmp 40) (.tmp 43) rfl wr.heap.size _ _ _ (O.drop 0) (by simp [Act.eval]) o4 (by simp [Act.eval]) (r2.below hHeldX) (by first | (simp; done) | (simp; omega)) hHeldX.size ?_
              intro v5 w5 o5 b5 g5 _
              refine hK.out _ _ (hHeldX.trans b5) (fun hHeldY => ?_)
              clear hK K
              simp only [Act.put, List.setIfInBounds_toArray, List.set_cons_zero, List.set_cons_succ]
              refine takeAt (i := 15) (d := 3) (v := v5) rfl rfl (by kernel_rfl) (by kernel_rfl) (by kernel_rfl) (fun _ _ _ h => h) (Or.inl ⟨by rfl, fun w hSw => by go_simp⟩) hHeldY ?_
              simp only [List.setIfInBounds_toArray, List.set_cons_zero, List.set_cons_succ]
              refine wpAnyH_done (by kernel_rfl) ?_ _
              go_wp2
              go_roundw
              case rel => exact ⟨i + 1, O.take 0 ++ x :: O.drop 0, by go_num, by omega, by have := o5.mono hbs0; simpa using this, FIN.out.1, FIN.out.2.1, FIN.out.2.2, hbw.trans ((hbs.trans (hHeldY.mono hbs.size)).mono hbw.size)⟩
              case measure => first | (simp [intOf]; done) | (simp [intOf]; omega)
            · rw [if_pos (by rfl)]
              go_simp
              refine hK.out _ _ (hHeld1.alloc (hHeld1.size) _) (fun hHeld2 => ?_)
              clear hK K
              refine wpAnyH_ready (rs := [4]) (by kernel_rfl) (by simp) ?_
              refine (AllReadyH.cons (o := { dst := some 34, op := Go.Op.call { callee := Go.Callee.builtin Go.Builtin.append, args := #[Go.Operand.tmp 30, Go.Operand.tmp 33], argTypes := #[22, 22] }, type := 22, pos := "ref.go:115", after := #[{ on := 0, ground := Go.Ground.data }, { on := 3, ground := Go.Ground.data }], guard := none }) rfl (fun K hK => ?_) AllReadyH.nil)
              refine step_appV rfl (.tmp 30) (.tmp 33) rfl wr.heap.size _ _ [] (O.take 0) (by simp [Act.eval]) ((OwnV.made wr.drew.drew (Nat.le_refl _)).alloc _) (by simp [Act.eval]) (r1.below hHeld2) (by first | (simp; done) | (simp; omega)) hHeld2.size ?_
              intro v3 w3 o3 b3 g3 _
              refine hK.out _ _ (hHeld2.trans b3) (fun hHeld3 => ?_)
              clear hK K
              simp only [Act.put, List.setIfInBounds_toArray, List.set_cons_zero, List.set_cons_succ]
              refine wpAnyH_ready (rs := [10]) (by kernel_rfl) (by simp) ?_
              refine (AllReadyH.cons (o := { dst := some 40, op := Go.Op.call { callee := Go.Callee.builtin Go.Builtin.append, args := #[Go.Operand.tmp 34, Go.Operand.tmp 39], argTypes := #[22, 22] }, type := 22, pos := "ref.go:115", after := #[{ on := 4, ground := Go.Ground.data }, { on := 9, ground := Go.Ground.data }, { on := 4, ground := Go.Ground.chain }], guard := none }) rfl (fun K hK => ?_) AllReadyH.nil)
              refine step_appV rfl (.tmp 34) (.tmp 39) rfl wr.heap.size _ _ _ [x] (by simp [Act.eval]) o3 (by simp [Act.eval]) (RdV.far g3 (RdV.one (wr.drew.drew.alloc (.cells #[] 50)) x _ rfl) (by simp [Value.ownBlock])) (by first | (simp; done) | (simp; omega)) hHeld3.size ?_
              intro v4 w4 o4 b4 g4 _
              refine hK.out _ _ (hHeld3.trans b4) (fun hHeldX => ?_)
              clear hK K
              simp only [Act.put, List.setIfInBounds_toArray, List.set_cons_zero, List.set_cons_succ]
              refine wpAnyH_ready (rs := [14]) (by kernel_rfl) (by simp) ?_
              refine (AllReadyH.cons (o := { dst := some 44, op := Go.Op.call { callee := Go.Callee.builtin Go.Builtin.append, args := #[Go.Operand.tmp 40, Go.Operand.tmp 43], argTypes := #[22, 22] }, type := 22, pos := "ref.go:115", after := #[{ on := 10, ground := Go.Ground.data }, { on := 13, ground := Go.Ground.data }, { on := 10, ground := Go.Ground.chain }], guard := none }) rfl (fun K hK => ?_) AllReadyH.nil)
              refine step_appV rfl (.tmp 40) (.tmp 43) rfl wr.heap.size _ _ _ (O.drop 0) (by simp [Act.eval]) o4 (by simp [Act.eval]) (r2.below hHeldX) (by first | (simp; done) | (simp; omega)) hHeldX.size ?_
              intro v5 w5 o5 b5 g5 _
              refine hK.out _ _ (hHeldX.trans b5) (fun hHeldY => ?_)
              clear hK K
              simp only [Act.put, List.setIfInBounds_toArray, List.set_cons_zero, List.set_cons_succ]
              refine takeAt (i := 15) (d := 3) (v := v5) rfl rfl (by kernel_rfl) (by kernel_rfl) (by kernel_rfl) (fun _ _ _ h => h) (Or.inl ⟨by rfl, fun w hSw => by go_simp⟩) hHeldY ?_
              simp only [List.setIfInBounds_toArray, List.set_cons_zero, List.set_cons_succ]
              refine wpAnyH_done (by kernel_rfl) ?_ _
              go_wp2
              go_roundw
              case rel => exact ⟨i + 1, O.take 0 ++ x :: O.drop 0, by go_num, by omega, by have := o5.mono hbs0; simpa using this, FIN.out.1, FIN.out.2.1, FIN.out.2.2, hbw.trans ((hbs.trans (hHeldY.mono hbs.size)).mono hbw.size)⟩
              case measure => first | (simp [intOf]; done) | (simp [intOf]; omega)
          · rw [if_pos (by rfl)]
            go_simp
            refine hK.out _ _ (hHeld.alloc (hHeld.size) _) (fun hHeld1 => ?_)
            clear hK K
            refine wpAnyH_ready (rs := [0]) (by kernel_rfl) (by simp) ?_
            refine (AllReadyH.cons (o := { dst := some 30, op := Go.Op.buildSlice 22 0 #[], type := 22, pos := "ref.go:115", after := #[], guard := none }) rfl (fun K hK => ?_) AllReadyH.nil)
            rw [if_pos (by rfl)]
            go_simp
            refine hK.out _ _ (hHeld1.alloc (hHeld1.size) _) (fun hHeld2 => ?_)
            clear hK K
            refine wpAnyH_ready (rs := [4]) (by kernel_rfl) (by simp) ?_
            refine (AllReadyH.cons (o := { dst := some 34, op := Go.Op.call { callee := Go.Callee.builtin Go.Builtin.append, args := #[Go.Operand.tmp 30, Go.Operand.tmp 33], argTypes := #[22, 22] }, type := 22, pos := "ref.go:115", after := #[{ on := 0, ground := Go.Ground.data }, { on := 3, ground := Go.Ground.data }], guard := none }) rfl (fun K hK => ?_) AllReadyH.nil)
            refine step_appV rfl (.tmp 30) (.tmp 33) rfl wr.heap.size _ _ [] (O.take 0) (by simp [Act.eval]) (OwnV.made _ hHeld1.size) (by simp [Act.eval]) (r1.below hHeld2) (by first | (simp; done) | (simp; omega)) hHeld2.size ?_
            intro v3 w3 o3 b3 g3 _
            refine hK.out _ _ (hHeld2.trans b3) (fun hHeld3 => ?_)
            clear hK K
            simp only [Act.put, List.setIfInBounds_toArray, List.set_cons_zero, List.set_cons_succ]
            refine wpAnyH_ready (rs := [10]) (by kernel_rfl) (by simp) ?_
            refine (AllReadyH.cons (o := { dst := some 40, op := Go.Op.call { callee := Go.Callee.builtin Go.Builtin.append, args := #[Go.Operand.tmp 34, Go.Operand.tmp 39], argTypes := #[22, 22] }, type := 22, pos := "ref.go:115", after := #[{ on := 4, ground := Go.Ground.data }, { on := 9, ground := Go.Ground.data }, { on := 4, ground := Go.Ground.chain }], guard := none }) rfl (fun K hK => ?_) AllReadyH.nil)
            refine step_appV rfl (.tmp 34) (.tmp 39) rfl wr.heap.size _ _ _ [x] (by simp [Act.eval]) o3 (by simp [Act.eval]) (RdV.far g3 ((RdV.one wr.drew.drew x _ rfl).below ((Below.refl _ _).alloc (Nat.le_refl _) _)) (by simp [Value.ownBlock])) (by first | (simp; done) | (simp; omega)) hHeld3.size ?_
            intro v4 w4 o4 b4 g4 _
            refine hK.out _ _ (hHeld3.trans b4) (fun hHeldX => ?_)
            clear hK K
            simp only [Act.put, List.setIfInBounds_toArray, List.set_cons_zero, List.set_cons_succ]
            refine wpAnyH_ready (rs := [14]) (by kernel_rfl) (by simp) ?_
            refine (AllReadyH.cons (o := { dst := some 44, op := Go.Op.call { callee := Go.Callee.builtin Go.Builtin.append, args := #[Go.Operand.tmp 40, Go.Operand.tmp 43], argTypes := #[22, 22] }, type := 22, pos := "ref.go:115", after := #[{ on := 10, ground := Go.Ground.data }, { on := 13, ground := Go.Ground.data }, { on := 10, ground := Go.Ground.chain }], guard := none }) rfl (fun K hK => ?_) AllReadyH.nil)
            refine step_appV rfl (.tmp 40) (.tmp 43) rfl wr.heap.size _ _ _ (O.drop 0) (by simp [Act.eval]) o4 (by simp [Act.eval]) (r2.below hHeldX) (by first | (simp; done) | (simp; omega)) hHeldX.size ?_
            intro v5 w5 o5 b5 g5 _
            refine hK.out _ _ (hHeldX.trans b5) (fun hHeldY => ?_)
            clear hK K
            simp only [Act.put, List.setIfInBounds_toArray, List.set_cons_zero, List.set_cons_succ]
            refine takeAt (i := 15) (d := 3) (v := v5) rfl rfl (by kernel_rfl) (by kernel_rfl) (by kernel_rfl) (fun _ _ _ h => h) (Or.inl ⟨by rfl, fun w hSw => by go_simp⟩) hHeldY ?_
            simp only [List.setIfInBounds_toArray, List.set_cons_zero, List.set_cons_succ]
            refine wpAnyH_done (by kernel_rfl) ?_ _
            go_wp2
            go_roundw
            case rel => exact ⟨i + 1, O.take 0 ++ x :: O.drop 0, by go_num, by omega, by have := o5.mono hbs0; simpa using this, FIN.out.1, FIN.out.2.1, FIN.out.2.2, hbw.trans ((hbs.trans (hHeldY.mono hbs.size)).mono hbw.size)⟩
            case measure => first | (simp [intOf]; done) | (simp [intOf]; omega)
        · have hk0' : (0 : Int) < (k : Int) := by omega
          have hkd : decide ((0 : Int) < (k : Int)) = true := decide_eq_true hk0'
          obtain ⟨j, hj⟩ : ∃ j, k = j + 1 := ⟨k - 1, by omega⟩
          obtain ⟨g, og, rfl, hg, hgc⟩ := hocell (by omega)
          have hjl : j < O.length := by omega
          have KY : ∀ w', Below wo.heap.size wo w' → w'.cell? ⟨g, og + j * 4, none⟩ = some (.int .i64 (O[j]).1.seq) ∧ w'.cell? ⟨g, og + j * 4 + 1, none⟩ = some (.int .i64 (O[j]).1.time) ∧ w'.cell? ⟨g, og + j * 4 + 2, none⟩ = some (.slice (O[j]).2.1 (O[j]).1.labs.length (O[j]).2.2) ∧ w'.cell? ⟨g, og + j * 4 + 3, none⟩ = some (.string ⟨(O[j]).1.line.toArray⟩) := fun w' h => ⟨(h.cell (p := ⟨g, og + j * 4, none⟩) hg).trans (hgc j hjl).1, (h.cell (p := ⟨g, og + j * 4 + 1, none⟩) hg).trans (hgc j hjl).2.1, (h.cell (p := ⟨g, og + j * 4 + 2, none⟩) hg).trans (hgc j hjl).2.2.1, (h.cell (p := ⟨g, og + j * 4 + 3, none⟩) hg).trans (hgc j hjl).2.2.2⟩
          have HT : Hid (ltE x O[j] = true → ∀ q (hq : q < O.length), j ≤ q → ltE x O[q] = true) := hid (fun h q hq hjq => by
            rcases Nat.lt_or_ge q k with h4 | h4
            · have h6 : q = j := by omega
              subst h6; exact h
            · exact HK.out q hq h4)
          have HFN : Hid (ltE x O[j] = false → Hid ((O.take k ++ x :: O.drop k).length = i + 1) ∧ Hid (StableOf ltE (X.take (i + 1)) (O.take k ++ x :: O.drop k)) ∧ (O.take k ++ x :: O.drop k).length ≤ N) := hid (fun h => FIN0.out k hk HK.out (fun _ hq => by
            subst hj
            simpa using h))
          have hlt0 : ltE x O[j] = ltT x.1 (O[j]).1 := rfl
          have zk : (k : Int) - 1 = (j : Int) := by omega
          have zk0 : (0 : Int) ≤ (j : Int) := by omega
          have zkl : (j : Int) < (O.length : Int) := by omega
          have zw : IntKind.i64.wrap (j : Int) = (j : Int) := by rw [IntKind.wrap_i64]; omega
          have zw2 : IntKind.i64.wrap ((k : Int) - 1) = (j : Int) := by rw [IntKind.wrap_i64]; omega
          have HJ := hid hj
          clear HK FIN0 hgc hocell hj
          generalize O[j] = y at *
          clear hjl
          have HBf := fun w1 => R3Before_is x.1 y.1 x.2.1 y.2.1 x.2.2 y.2.2 w1
          unfold entV at HBf
          rw [← hlt0] at HBf
          clear hlt0
          have hk1 : Below wo.heap.size wo wr.drew := ⟨hbs.os, hbs.tape, hbs.output, hbs.size, hbs.block⟩
          have mkS : ∀ w', Below wo.heap.size wo w' → Below wo.heap.size wo w' ∧ w'.cell? ⟨b, off + i * 4, none⟩ = some (.int .i64 x.1.seq) ∧ w'.cell? ⟨b, off + i * 4 + 1, none⟩ = some (.int .i64 x.1.time) ∧ w'.cell? ⟨b, off + i * 4 + 2, none⟩ = some (.slice x.2.1 x.1.labs.length x.2.2) ∧ w'.cell? ⟨b, off + i * 4 + 3, none⟩ = some (.string ⟨x.1.line.toArray⟩) ∧ w'.cell? ⟨g, og + j * 4, none⟩ = some (.int .i64 y.1.seq) ∧ w'.cell? ⟨g, og + j * 4 + 1, none⟩ = some (.int .i64 y.1.time) ∧ w'.cell? ⟨g, og + j * 4 + 2, none⟩ = some (.slice y.2.1 y.1.labs.length y.2.2) ∧ w'.cell? ⟨g, og + j * 4 + 3, none⟩ = some (.string ⟨y.1.line.toArray⟩) := fun w' h => ⟨h, (KX _ h).1, (KX _ h).2.1, (KX _ h).2.2.1, (KX _ h).2.2.2, (KY _ h).1, (KY _ h).2.1, (KY _ h).2.2.1, (KY _ h).2.2.2⟩
          have hk9 := mkS wr.drew hk1
          cases hB : ltE x y with
          | true =>
            rw [hB] at HBf
            have HT2 := hid (HT.out hB)
            clear HT HFN hB
            go_wp2_with fail
            refine wp_region_held_drew (S := fun w' => Below wo.heap.size wo w' ∧ w'.cell? ⟨b, off + i * 4, none⟩ = some (.int .i64 x.1.seq) ∧ w'.cell? ⟨b, off + i * 4 + 1, none⟩ = some (.int .i64 x.1.time) ∧ w'.cell? ⟨b, off + i * 4 + 2, none⟩ = some (.slice x.2.1 x.1.labs.length x.2.2) ∧ w'.cell? ⟨b, off + i * 4 + 3, none⟩ = some (.string ⟨x.1.line.toArray⟩) ∧ w'.cell? ⟨g, og + j * 4, none⟩ = some (.int .i64 y.1.seq) ∧ w'.cell? ⟨g, og + j * 4 + 1, none⟩ = some (.int .i64 y.1.time) ∧ w'.cell? ⟨g, og + j * 4 + 2, none⟩ = some (.slice y.2.1 y.1.labs.length y.2.2) ∧ w'.cell? ⟨g, og + j * 4 + 3, none⟩ = some (.string ⟨y.1.line.toArray⟩)) (by kernel_rfl) hk9 (fun hHeld => ?_)
            refine takeAt (i := 0) (d := 14) (v := .int .i64 (k : Int)) rfl rfl (by kernel_rfl) (by kernel_rfl) (by kernel_rfl) (fun _ _ _ h => h) (Or.inl ⟨by rfl, fun w hSw => by obtain ⟨hS0, hS1, hS2, hS3, hS4, hS5, hS6, hS7, hS8⟩ := hSw; go_simp⟩) hHeld ?_
            simp only [List.setIfInBounds_toArray, List.set_cons_zero, List.set_cons_succ]
            refine takeAt (i := 1) (d := 15) (v := .bool true) rfl rfl (by kernel_rfl) (by kernel_rfl) (by kernel_rfl) (fun _ _ _ h => h) (Or.inl ⟨by rfl, fun w hSw => by obtain ⟨hS0, hS1, hS2, hS3, hS4, hS5, hS6, hS7, hS8⟩ := hSw; go_simp; omega⟩) hHeld ?_
            simp only [List.setIfInBounds_toArray, List.set_cons_zero, List.set_cons_succ]
            refine takeAt (i := 2) (d := 16) (v := .bool true) rfl rfl (by kernel_rfl) (by kernel_rfl) (by kernel_rfl) (fun _ _ _ h => h) (Or.inl ⟨by rfl, fun w hSw => by obtain ⟨hS0, hS1, hS2, hS3, hS4, hS5, hS6, hS7, hS8⟩ := hSw; go_simp⟩) hHeld ?_
            simp only [List.setIfInBounds_toArray, List.set_cons_zero, List.set_cons_succ]
            refine takeAt (i := 3) (d := 17) (v := .slice (some ⟨b, off, none⟩) N c) rfl rfl (by kernel_rfl) (by kernel_rfl) (by kernel_rfl) (fun _ _ _ h => h) (Or.inl ⟨by rfl, fun w hSw => by obtain ⟨hS0, hS1, hS2, hS3, hS4, hS5, hS6, hS7, hS8⟩ := hSw; go_simp⟩) hHeld ?_
            simp only [List.setIfInBounds_toArray, List.set_cons_zero, List.set_cons_succ]
            refine takeAt (i := 4) (d := 18) (v := .int .i64 (i : Int)) rfl rfl (by kernel_rfl) (by kernel_rfl) (by kernel_rfl) (fun _ _ _ h => h) (Or.inl ⟨by rfl, fun w hSw => by obtain ⟨hS0, hS1, hS2, hS3, hS4, hS5, hS6, hS7, hS8⟩ := hSw; go_simp⟩) hHeld ?_
            simp only [List.setIfInBounds_toArray, List.set_cons_zero, List.set_cons_succ]
            refine takeAt (i := 5) (d := 19) (v := .pointer (some ⟨b, off + i * 4, none⟩)) rfl rfl (by kernel_rfl) (by kernel_rfl) (by kernel_rfl) (fun _ _ _ h => h) (Or.inl ⟨by rfl, fun w hSw => by obtain ⟨hS0, hS1, hS2, hS3, hS4, hS5, hS6, hS7, hS8⟩ := hSw; go_simp⟩) hHeld ?_
            simp only [List.setIfInBounds_toArray, List.set_cons_zero, List.set_cons_succ]
            refine takeAt (i := 6) (d := 20) (v := .agg #[.int .i64 x.1.seq, .int .i64 x.1.time, .slice x.2.1 x.1.labs.length x.2.2, .string ⟨x.1.line.toArray⟩]) rfl rfl (by kernel_rfl) (by kernel_rfl) (by kernel_rfl) (fun _ _ _ h => h) (Or.inl ⟨by rfl, fun w hSw => by obtain ⟨hS0, hS1, hS2, hS3, hS4, hS5, hS6, hS7, hS8⟩ := hSw; go_simp⟩) hHeld ?_
            simp only [List.setIfInBounds_toArray, List.set_cons_zero, List.set_cons_succ]
            refine takeAt (i := 7) (d := 21) (v := .slice (some ⟨g, og, none⟩) O.length co) rfl rfl (by kernel_rfl) (by kernel_rfl) (by kernel_rfl) (fun _ _ _ h => h) (Or.inl ⟨by rfl, fun w hSw => by obtain ⟨hS0, hS1, hS2, hS3, hS4, hS5, hS6, hS7, hS8⟩ := hSw; go_simp⟩) hHeld ?_
            simp only [List.setIfInBounds_toArray, List.set_cons_zero, List.set_cons_succ]
            refine takeAt (i := 8) (d := 22) (v := .int .i64 (k : Int)) rfl rfl (by kernel_rfl) (by kernel_rfl) (by kernel_rfl) (fun _ _ _ h => h) (Or.inl ⟨by rfl, fun w hSw => by obtain ⟨hS0, hS1, hS2, hS3, hS4, hS5, hS6, hS7, hS8⟩ := hSw; go_simp⟩) hHeld ?_
            simp only [List.setIfInBounds_toArray, List.set_cons_zero, List.set_cons_succ]
            refine takeAt (i := 9) (d := 23) (v := .int .i64 (j : Int)) rfl rfl (by kernel_rfl) (by kernel_rfl) (by kernel_rfl) (fun _ _ _ h => h) (Or.inl ⟨by rfl, fun w hSw => by obtain ⟨hS0, hS1, hS2, hS3, hS4, hS5, hS6, hS7, hS8⟩ := hSw; go_simp⟩) hHeld ?_
            simp only [List.setIfInBounds_toArray, List.set_cons_zero, List.set_cons_succ]
            refine takeAt (i := 10) (d := 24) (v := .pointer (some ⟨g, og + j * 4, none⟩)) rfl rfl (by kernel_rfl) (by kernel_rfl) (by kernel_rfl) (fun _ _ _ h => h) (Or.inl ⟨by rfl, fun w hSw => by obtain ⟨hS0, hS1, hS2, hS3, hS4, hS5, hS6, hS7, hS8⟩ := hSw; go_simp⟩) hHeld ?_
            simp only [List.setIfInBounds_toArray, List.set_cons_zero, List.set_cons_succ]
            refine takeAt (i := 11) (d := 25) (v := .agg #[.int .i64 y.1.seq, .int .i64 y.1.time, .slice y.2.1 y.1.labs.length y.2.2, .string ⟨y.1.line.toArray⟩]) rfl rfl (by kernel_rfl) (by kernel_rfl) (by kernel_rfl) (fun _ _ _ h => h) (Or.inl ⟨by rfl, fun w hSw => by obtain ⟨hS0, hS1, hS2, hS3, hS4, hS5, hS6, hS7, hS8⟩ := hSw; go_simp⟩) hHeld ?_
            simp only [List.setIfInBounds_toArray, List.set_cons_zero, List.set_cons_succ]
            refine wpAnyH_ready (rs := [12]) (by kernel_rfl) (by simp) ?_
            refine AllReadyH.cons (o := { dst := some 26, op := Go.Op.call { callee := Go.Callee.value (Go.Operand.func 52), args := #[Go.Operand.tmp 20, Go.Operand.tmp 25], argTypes := #[50, 50] }, type := 4, pos := "ref.go:112", after := #[{ on := 6, ground := Go.Ground.data }, { on := 11, ground := Go.Ground.data }, { on := 2, ground := Go.Ground.chain }, { on := 2, ground := Go.Ground.guard }], guard := some (2, true) }) rfl (fun K hK => ?_) AllReadyH.nil
            rw [if_pos (by rfl)]
            go_simp
            refine (HBf _).mono ?_
            rintro e w1 ⟨rfl, b1⟩
            refine hK.out _ _ (mkS _ (hk9.1.trans (b1.mono hk9.1.size))) (fun hHeld2 => ?_)
            clear hK K
            try simp only [Act.put, List.setIfInBounds_toArray, List.set_cons_zero, List.set_cons_succ]
            refine takeAt (i := 13) (d := 27) (v := .bool true) rfl rfl (by kernel_rfl) (by kernel_rfl) (by kernel_rfl) (fun _ _ _ h => h) (Or.inl ⟨by rfl, fun w hSw => by obtain ⟨hS0, hS1, hS2, hS3, hS4, hS5, hS6, hS7, hS8⟩ := hSw; go_simp⟩) hHeld2 ?_
            simp only [List.setIfInBounds_toArray, List.set_cons_zero, List.set_cons_succ]
            refine wpAnyH_done (by kernel_rfl) ?_ _
            have hw1 := hHeld2.1
            go_wp2_with fail
            go_roundw
            case rel => exact ⟨j, rfl, by have := HJ.out; omega, hw1, HT2⟩
            case measure => have := HJ.out; simp [intOf]; omega
          | false =>
            rw [hB] at HBf
            have FIN := hid (HFN.out hB)
            clear HT HFN hB
            go_wp2_with fail
            refine wp_region_held_drew (S := fun w' => Below wo.heap.size wo w' ∧ w'.cell? ⟨b, off + i * 4, none⟩ = some (.int .i64 x.1.seq) ∧ w'.cell? ⟨b, off + i * 4 + 1, none⟩ = some (.int .i64 x.1.time) ∧ w'.cell? ⟨b, off + i * 4 + 2, none⟩ = some (.slice x.2.1 x.1.labs.length x.2.2) ∧ w'.cell? ⟨b, off + i * 4 + 3, none⟩ = some (.string ⟨x.1.line.toArray⟩) ∧ w'.cell? ⟨g, og + j * 4, none⟩ = some (.int .i64 y.1.seq) ∧ w'.cell? ⟨g, og + j * 4 + 1, none⟩ = some (.int .i64 y.1.time) ∧ w'.cell? ⟨g, og + j * 4 + 2, none⟩ = some (.slice y.2.1 y.1.labs.length y.2.2) ∧ w'.cell? ⟨g, og + j * 4 + 3, none⟩ = some (.string ⟨y.1.line.toArray⟩)) (by kernel_rfl) hk9 (fun hHeld => ?_)
            refine takeAt (i := 0) (d := 14) (v := .int .i64 (k : Int)) rfl rfl (by kernel_rfl) (by kernel_rfl) (by kernel_rfl) (fun _ _ _ h => h) (Or.inl ⟨by rfl, fun w hSw => by obtain ⟨hS0, hS1, hS2, hS3, hS4, hS5, hS6, hS7, hS8⟩ := hSw; go_simp⟩) hHeld ?_
            simp only [List.setIfInBounds_toArray, List.set_cons_zero, List.set_cons_succ]
            refine takeAt (i := 1) (d := 15) (v := .bool true) rfl rfl (by kernel_rfl) (by kernel_rfl) (by kernel_rfl) (fun _ _ _ h => h) (Or.inl ⟨by rfl, fun w hSw => by obtain ⟨hS0, hS1, hS2, hS3, hS4, hS5, hS6, hS7, hS8⟩ := hSw; go_simp; omega⟩) hHeld ?_
            simp only [List.setIfInBounds_toArray, List.set_cons_zero, List.set_cons_succ]
            refine takeAt (i := 2) (d := 16) (v := .bool true) rfl rfl (by kernel_rfl) (by kernel_rfl) (by kernel_rfl) (fun _ _ _ h => h) (Or.inl ⟨by rfl, fun w hSw => by obtain ⟨hS0, hS1, hS2, hS3, hS4, hS5, hS6, hS7, hS8⟩ := hSw; go_simp⟩) hHeld ?_
            simp only [List.setIfInBounds_toArray, List.set_cons_zero, List.set_cons_succ]
            refine takeAt (i := 3) (d := 17) (v := .slice (some ⟨b, off, none⟩) N c) rfl rfl (by kernel_rfl) (by kernel_rfl) (by kernel_rfl) (fun _ _ _ h => h) (Or.inl ⟨by rfl, fun w hSw => by obtain ⟨hS0, hS1, hS2, hS3, hS4, hS5, hS6, hS7, hS8⟩ := hSw; go_simp⟩) hHeld ?_
            simp only [List.setIfInBounds_toArray, List.set_cons_zero, List.set_cons_succ]
            refine takeAt (i := 4) (d := 18) (v := .int .i64 (i : Int)) rfl rfl (by kernel_rfl) (by kernel_rfl) (by kernel_rfl) (fun _ _ _ h => h) (Or.inl ⟨by rfl, fun w hSw => by obtain ⟨hS0, hS1, hS2, hS3, hS4, hS5, hS6, hS7, hS8⟩ := hSw; go_simp⟩) hHeld ?_
            simp only [List.setIfInBounds_toArray, List.set_cons_zero, List.set_cons_succ]
            refine takeAt (i := 5) (d := 19) (v := .pointer (some ⟨b, off + i * 4, none⟩)) rfl rfl (by kernel_rfl) (by kernel_rfl) (by kernel_rfl) (fun _ _ _ h => h) (Or.inl ⟨by rfl, fun w hSw => by obtain ⟨hS0, hS1, hS2, hS3, hS4, hS5, hS6, hS7, hS8⟩ := hSw; go_simp⟩) hHeld ?_
            simp only [List.setIfInBounds_toArray, List.set_cons_zero, List.set_cons_succ]
            refine takeAt (i := 6) (d := 20) (v := .agg #[.int .i64 x.1.seq, .int .i64 x.1.time, .slice x.2.1 x.1.labs.length x.2.2, .string ⟨x.1.line.toArray⟩]) rfl rfl (by kernel_rfl) (by kernel_rfl) (by kernel_rfl) (fun _ _ _ h => h) (Or.inl ⟨by rfl, fun w hSw => by obtain ⟨hS0, hS1, hS2, hS3, hS4, hS5, hS6, hS7, hS8⟩ := hSw; go_simp⟩) hHeld ?_
            simp only [List.setIfInBounds_toArray, List.set_cons_zero, List.set_cons_succ]
            refine takeAt (i := 7) (d := 21) (v := .slice (some ⟨g, og, none⟩) O.length co) rfl rfl (by kernel_rfl) (by kernel_rfl) (by kernel_rfl) (fun _ _ _ h => h) (Or.inl ⟨by rfl, fun w hSw => by obtain ⟨hS0, hS1, hS2, hS3, hS4, hS5, hS6, hS7, hS8⟩ := hSw; go_simp⟩) hHeld ?_
            simp only [List.setIfInBounds_toArray, List.set_cons_zero, List.set_cons_succ]
            refine takeAt (i := 8) (d := 22) (v := .int .i64 (k : Int)) rfl rfl (by kernel_rfl) (by kernel_rfl) (by kernel_rfl) (fun _ _ _ h => h) (Or.inl ⟨by rfl, fun w hSw => by obtain ⟨hS0, hS1, hS2, hS3, hS4, hS5, hS6, hS7, hS8⟩ := hSw; go_simp⟩) hHeld ?_
            simp only [List.setIfInBounds_toArray, List.set_cons_zero, List.set_cons_succ]
            refine takeAt (i := 9) (d := 23) (v := .int .i64 (j : Int)) rfl rfl (by kernel_rfl) (by kernel_rfl) (by kernel_rfl) (fun _ _ _ h => h) (Or.inl ⟨by rfl, fun w hSw => by obtain ⟨hS0, hS1, hS2, hS3, hS4, hS5, hS6, hS7, hS8⟩ := hSw; go_simp⟩) hHeld ?_
            simp only [List.setIfInBounds_toArray, List.set_cons_zero, List.set_cons_succ]
            refine takeAt (i := 10) (d := 24) (v := .pointer (some ⟨g, og + j * 4, none⟩)) rfl rfl (by kernel_rfl) (by kernel_rfl) (by kernel_rfl) (fun _ _ _ h => h) (Or.inl ⟨by rfl, fun w hSw => by obtain ⟨hS0, hS1, hS2, hS3, hS4, hS5, hS6, hS7, hS8⟩ := hSw; go_simp⟩) hHeld ?_
            simp only [List.setIfInBounds_toArray, List.set_cons_zero, List.set_cons_succ]
            refine takeAt (i := 11) (d := 25) (v := .agg #[.int .i64 y.1.seq, .int .i64 y.1.time, .slice y.2.1 y.1.labs.length y.2.2, .string ⟨y.1.line.toArray⟩]) rfl rfl (by kernel_rfl) (by kernel_rfl) (by kernel_rfl) (fun _ _ _ h => h) (Or.inl ⟨by rfl, fun w hSw => by obtain ⟨hS0, hS1, hS2, hS3, hS4, hS5, hS6, hS7, hS8⟩ := hSw; go_simp⟩) hHeld ?_
            simp only [List.setIfInBounds_toArray, List.set_cons_zero, List.set_cons_succ]
            refine wpAnyH_ready (rs := [12]) (by kernel_rfl) (by simp) ?_
            refine AllReadyH.cons (o := { dst := some 26, op := Go.Op.call { callee := Go.Callee.value (Go.Operand.func 52), args := #[Go.Operand.tmp 20, Go.Operand.tmp 25], argTypes := #[50, 50] }, type := 4, pos := "ref.go:112", after := #[{ on := 6, ground := Go.Ground.data }, { on := 11, ground := Go.Ground.data }, { on := 2, ground := Go.Ground.chain }, { on := 2, ground := Go.Ground.guard }], guard := some (2, true) }) rfl (fun K hK => ?_) AllReadyH.nil
            rw [if_pos (by rfl)]
            go_simp
            refine (HBf _).mono ?_
            rintro e w1 ⟨rfl, b1⟩
            refine hK.out _ _ (mkS _ (hk9.1.trans (b1.mono hk9.1.size))) (fun hHeld2 => ?_)
            clear hK K
            try simp only [Act.put, List.setIfInBounds_toArray, List.set_cons_zero, List.set_cons_succ]
            refine takeAt (i := 13) (d := 27) (v := .bool false) rfl rfl (by kernel_rfl) (by kernel_rfl) (by kernel_rfl) (fun _ _ _ h => h) (Or.inl ⟨by rfl, fun w hSw => by obtain ⟨hS0, hS1, hS2, hS3, hS4, hS5, hS6, hS7, hS8⟩ := hSw; go_simp⟩) hHeld2 ?_
            simp only [List.setIfInBounds_toArray, List.set_cons_zero, List.set_cons_succ]
            refine wpAnyH_done (by kernel_rfl) ?_ _
            have hbs := hHeld2.1
            clear hHeld2 hk9 mkS hk1 HBf
            go_wp2_with fail
            have hs1 := fun wx => run_topV (A := (some ⟨g, og, none⟩)) (n := O.length) (c := co) (hi := k) (by omega) wx
            have hs2 := fun wx => run_fromV (A := (some ⟨g, og, none⟩)) (n := O.length) (c := co) (s := k) hk wx
            have r1 := (ho2.below hbs).part 0 k (by omega) hk
            have r2 := (ho2.below hbs).part k O.length hk (Nat.le_refl _)
            rw [Nat.sub_zero, List.drop_zero] at r1
            rw [List.take_of_length_le (by rw [List.length_drop]; exact Nat.le_refl _)] at r2
            generalize sliced (some ⟨g, og, none⟩) 0 k co 4 = v1 at *
            generalize sliced (some ⟨g, og, none⟩) k O.length co 4 = v2 at *
            obtain ⟨hx0, hx1, hx2, hx3⟩ := KX _ hbs
            have hbs3 := Nat.lt_of_lt_of_le hbz hbs.size
            have hbs0 := Nat.le_trans hbw.size hbs.size
            refine wp_region_held_drew (S := fun w' => Below w1.heap.size w1 w') (by kernel_rfl) (Below.refl _ _).drew (fun hHeld => ?_)
            refine takeAt (i := 1) (d := 31) (v := .slice (some ⟨g, og, none⟩) O.length co) rfl rfl (by kernel_rfl) (by kernel_rfl) (by kernel_rfl) (fun _ _ _ h => h) (Or.inl ⟨by rfl, fun w hSw => by go_simp⟩) hHeld ?_
            simp only [List.setIfInBounds_toArray, List.set_cons_zero, List.set_cons_succ]
            refine takeAt (i := 2) (d := 32) (v := .int .i64 (k : Int)) rfl rfl (by kernel_rfl) (by kernel_rfl) (by kernel_rfl) (fun _ _ _ h => h) (Or.inl ⟨by rfl, fun w hSw => by go_simp⟩) hHeld ?_
            simp only [List.setIfInBounds_toArray, List.set_cons_zero, List.set_cons_succ]
            refine takeAt (i := 3) (d := 33) (v := v1) rfl rfl (by kernel_rfl) (by kernel_rfl) (by kernel_rfl) (fun _ _ _ h => h) (Or.inl ⟨by rfl, fun w hSw => by go_simp⟩) hHeld ?_
            simp only [List.setIfInBounds_toArray, List.set_cons_zero, List.set_cons_succ]
            refine takeAt (i := 5) (d := 35) (v := .slice (some ⟨b, off, none⟩) N c) rfl rfl (by kernel_rfl) (by kernel_rfl) (by kernel_rfl) (fun _ _ _ h => h) (Or.inl ⟨by rfl, fun w hSw => by go_simp⟩) hHeld ?_
            simp only [List.setIfInBounds_toArray, List.set_cons_zero, List.set_cons_succ]
            refine takeAt (i := 6) (d := 36) (v := .int .i64 (i : Int)) rfl rfl (by kernel_rfl) (by kernel_rfl) (by kernel_rfl) (fun _ _ _ h => h) (Or.inl ⟨by rfl, fun w hSw => by go_simp⟩) hHeld ?_
            simp only [List.setIfInBounds_toArray, List.set_cons_zero, List.set_cons_succ]
            refine takeAt (i := 7) (d := 37) (v := .pointer (some ⟨b, off + i * 4, none⟩)) rfl rfl (by kernel_rfl) (by kernel_rfl) (by kernel_rfl) (fun _ _ _ h => h) (Or.inl ⟨by rfl, fun w hSw => by go_simp⟩) hHeld ?_
            simp only [List.setIfInBounds_toArray, List.set_cons_zero, List.set_cons_succ]
            refine takeAt (i := 8) (d := 38) (v := .agg #[.int .i64 x.1.seq, .int .i64 x.1.time, .slice x.2.1 x.1.labs.length x.2.2, .string ⟨x.1.line.toArray⟩]) rfl rfl (by kernel_rfl) (by kernel_rfl) (by kernel_rfl) (fun _ _ _ h => h) (Or.inl ⟨by rfl, fun w hSw => by have g0 := (hSw.cell (p := ⟨b, off + i * 4, none⟩) hbs3).trans hx0; have g1 := (hSw.cell (p := ⟨b, off + i * 4 + 1, none⟩) hbs3).trans hx1; have g2 := (hSw.cell (p := ⟨b, off + i * 4 + 2, none⟩) hbs3).trans hx2; have g3 := (hSw.cell (p := ⟨b, off + i * 4 + 3, none⟩) hbs3).trans hx3; go_simp⟩) hHeld ?_
            simp only [List.setIfInBounds_toArray, List.set_cons_zero, List.set_cons_succ]
            refine takeAt (i := 11) (d := 41) (v := .slice (some ⟨g, og, none⟩) O.length co) rfl rfl (by kernel_rfl) (by kernel_rfl) (by kernel_rfl) (fun _ _ _ h => h) (Or.inl ⟨by rfl, fun w hSw => by go_simp⟩) hHeld ?_
            simp only [List.setIfInBounds_toArray, List.set_cons_zero, List.set_cons_succ]
            refine takeAt (i := 12) (d := 42) (v := .int .i64 (k : Int)) rfl rfl (by kernel_rfl) (by kernel_rfl) (by kernel_rfl) (fun _ _ _ h => h) (Or.inl ⟨by rfl, fun w hSw => by go_simp⟩) hHeld ?_
            simp only [List.setIfInBounds_toArray, List.set_cons_zero, List.set_cons_succ]
            refine takeAt (i := 13) (d := 43) (v := v2) rfl rfl (by kernel_rfl) (by kernel_rfl) (by kernel_rfl) (fun _ _ _ h => h) (Or.inl ⟨by rfl, fun w hSw => by go_simp⟩) hHeld ?_
            simp only [List.setIfInBounds_toArray, List.set_cons_zero, List.set_cons_succ]
            refine wpAnyH_ready (rs := [0, 9]) (by kernel_rfl) (by simp) ?_
            refine (AllReadyH.cons (o := { dst := some 30, op := Go.Op.buildSlice 22 0 #[], type := 22, pos := "ref.go:115", after := #[], guard := none }) rfl (fun K hK => ?_) (AllReadyH.cons (o := { dst := some 39, op := Go.Op.buildSlice 22 1 #[(0, Go.Operand.tmp 38)], type := 22, pos := "ref.go:115", after := #[{ on := 8, ground := Go.Ground.data }], guard := none }) rfl (fun K hK => ?_) AllReadyH.nil))
            · rw [if_pos (by rfl)]
              go_simp
              refine hK.out _ _ (hHeld.alloc (hHeld.size) _) (fun hHeld1 => ?_)
              clear hK K
              refine wpAnyH_ready (rs := [4, 9]) (by kernel_rfl) (by simp) ?_
              refine (AllReadyH.cons (o := { dst := some 34, op := Go.Op.call { callee := Go.Callee.builtin Go.Builtin.append, args := #[Go.Operand.tmp 30, Go.Operand.tmp 33], argTypes := #[22, 22] }, type := 22, pos := "ref.go:115", after := #[{ on := 0, ground := Go.Ground.data }, { on := 3, ground := Go.Ground.data }], guard := none }) rfl (fun K hK => ?_) (AllReadyH.cons (o := { dst := some 39, op := Go.Op.buildSlice 22 1 #[(0, Go.Operand.tmp 38)], type := 22, pos := "ref.go:115", after := #[{ on := 8, ground := Go.Ground.data }], guard := none }) rfl (fun K hK => ?_) AllReadyH.nil))
              · refine step_appV rfl (.tmp 30) (.tmp 33) rfl w1.heap.size _ _ [] (O.take k) (by simp [Act.eval]) (OwnV.made w1.drew (Nat.le_refl _)) (by simp [Act.eval]) (r1.below hHeld1) (by first | (simp; done) | (simp; omega)) hHeld1.size ?_
                intro v3 w3 o3 b3 g3 _
                refine hK.out _ _ (hHeld1.trans b3) (fun hHeld2 => ?_)
                clear hK K
                simp only [Act.put, List.setIfInBounds_toArray, List.set_cons_zero, List.set_cons_succ]
                refine wpAnyH_ready (rs := [9]) (by kernel_rfl) (by simp) ?_
                refine (AllReadyH.cons (o := { dst := some 39, op := Go.Op.buildSlice 22 1 #[(0, Go.Operand.tmp 38)], type := 22, pos := "ref.go:115", after := #[{ on := 8, ground := Go.Ground.data }], guard := none }) rfl (fun K hK => ?_) AllReadyH.nil)
                rw [if_pos (by rfl)]
                go_simp
                refine hK.out _ _ (hHeld2.alloc (hHeld2.size) _) (fun hHeld3 => ?_)
                clear hK K
                refine wpAnyH_ready (rs := [10]) (by kernel_rfl) (by simp) ?_
                refine (AllReadyH.cons (o := { dst := some 40, op := Go.Op.call { callee := Go.Callee.builtin Go.Builtin.append, args := #[Go.Operand.tmp 34, Go.Operand.tmp 39], argTypes := #[22, 22] }, type := 22, pos := "ref.go:115", after := #[{ on := 4, ground := Go.Ground.data }, { on := 9, ground := Go.Ground.data }, { on := 4, ground := Go.Ground.chain }], guard := none }) rfl (fun K hK => ?_) AllReadyH.nil)
                refine step_appV rfl (.tmp 34) (.tmp 39) rfl w1.heap.size _ _ _ [x] (by simp [Act.eval]) (o3.alloc _) (by simp [Act.eval]) (RdV.one w3 x _ rfl) (by first | (simp; done) | (simp; omega)) hHeld3.size ?_
                intro v4 w4 o4 b4 g4 _
                refine hK.out _ _ (hHeld3.trans b4) (fun hHeldX => ?_)
                clear hK K
                simp only [Act.put, List.setIfInBounds_toArray, List.set_cons_zero, List.set_cons_succ]
                refine wpAnyH_ready (rs := [14]) (by kernel_rfl) (by simp) ?_
                refine (AllReadyH.cons (o := { dst := some 44, op := Go.Op.call { callee := Go.Callee.builtin Go.Builtin.append, args := #[Go.Operand.tmp 40, Go.Operand.tmp 43], argTypes := #[22, 22] }, type := 22, pos := "ref.go:115", after := #[{ on := 10, ground := Go.Ground.data }, { on := 13, ground := Go.Ground.data }, { on := 10, ground := Go.Ground.chain }], guard := none }) rfl (fun K hK => ?_) AllReadyH.nil)
                refine step_appV rfl (.tmp 40) (.tmp 43) rfl w1.heap.size _ _ _ (O.drop k) (by simp [Act.eval]) o4 (by simp [Act.eval]) (r2.below hHeldX) (by first | (simp; done) | (simp; omega)) hHeldX.size ?_
                intro v5 w5 o5 b5 g5 _
                refine hK.out _ _ (hHeldX.trans b5) (fun hHeldY => ?_)
                clear hK K
                simp only [Act.put, List.setIfInBounds_toArray, List.set_cons_zero, List.set_cons_succ]
                refine takeAt (i := 15) (d := 3) (v := v5) rfl rfl (by kernel_rfl) (by kernel_rfl) (by kernel_rfl) (fun _ _ _ h => h) (Or.inl ⟨by rfl, fun w hSw => by go_simp⟩) hHeldY ?_
                simp only [List.setIfInBounds_toArray, List.set_cons_zero, List.set_cons_succ]
                refine wpAnyH_done (by kernel_rfl) ?_ _
                go_wp2
                go_roundw
                case rel => exact ⟨i + 1, O.take k ++ x :: O.drop k, by go_num, by omega, by have := o5.mono hbs0; simpa using this, FIN.out.1, FIN.out.2.1, FIN.out.2.2, hbw.trans ((hbs.trans (hHeldY.mono hbs.size)).mono hbw.size)⟩
                case measure => first | (simp [intOf]; done) | (simp [intOf]; omega)
              · rw [if_pos (by rfl)]
                go_simp
                refine hK.out _ _ (hHeld1.alloc (hHeld1.size) _) (fun hHeld2 => ?_)
                clear hK K
                refine wpAnyH_ready (rs := [4]) (by kernel_rfl) (by simp) ?_
                refine (AllReadyH.cons (o := { dst := some 34, op := Go.Op.call { callee := Go.Callee.builtin Go.Builtin.append, args := #[Go.Operand.tmp 30, Go.Operand.tmp 33], argTypes := #[22, 22] }, type := 22, pos := "ref.go:115", after := #[{ on := 0, ground := Go.Ground.data }, { on := 3, ground := Go.Ground.data }], guard := none }) rfl (fun K hK => ?_) AllReadyH.nil)
                refine step_appV rfl (.tmp 30) (.tmp 33) rfl w1.heap.size _ _ [] (O.take k) (by simp [Act.eval]) ((OwnV.made w1.drew (Nat.le_refl _)).alloc _) (by simp [Act.eval]) (r1.below hHeld2) (by first | (simp; done) | (simp; omega)) hHeld2.size ?_
                intro v3 w3 o3 b3 g3 _
                refine hK.out _ _ (hHeld2.trans b3) (fun hHeld3 => ?_)
                clear hK K
                simp only [Act.put, List.setIfInBounds_toArray, List.set_cons_zero, List.set_cons_succ]
                refine wpAnyH_ready (rs := [10]) (by kernel_rfl) (by simp) ?_
                refine (AllReadyH.cons (o := { dst := some 40, op := Go.Op.call { callee := Go.Callee.builtin Go.Builtin.append, args := #[Go.Operand.tmp 34, Go.Operand.tmp 39], argTypes := #[22, 22] }, type := 22, pos := "ref.go:115", after := #[{ on := 4, ground := Go.Ground.data }, { on := 9, ground := Go.Ground.data }, { on := 4, ground := Go.Ground.chain }], guard := none }) rfl (fun K hK => ?_) AllReadyH.nil)
                refine step_appV rfl (.tmp 34) (.tmp 39) rfl w1.heap.size _ _ _ [x] (by simp [Act.eval]) o3 (by simp [Act.eval]) (RdV.far g3 (RdV.one (w1.drew.alloc (.cells #[] 50)) x _ rfl) (by simp [Value.ownBlock])) (by first | (simp; done) | (simp; omega)) hHeld3.size ?_
                intro v4 w4 o4 b4 g4 _
                refine hK.out _ _ (hHeld3.trans b4) (fun hHeldX => ?_)
                clear hK K
                simp only [Act.put, List.setIfInBounds_toArray, List.set_cons_zero, List.set_cons_succ]
                refine wpAnyH_ready (rs := [14]) (by kernel_rfl) (by simp) ?_
                refine (AllReadyH.cons (o := { dst := some 44, op := Go.Op.call { callee := Go.Callee.builtin Go.Builtin.append, args := #[Go.Operand.tmp 40, Go.Operand.tmp 43], argTypes := #[22, 22] }, type := 22, pos := "ref.go:115", after := #[{ on := 10, ground := Go.Ground.data }, { on := 13, ground := Go.Ground.data }, { on := 10, ground := Go.Ground.chain }], guard := none }) rfl (fun K hK => ?_) AllReadyH.nil)
                refine step_appV rfl (.tmp 40) (.tmp 43) rfl w1.heap.size _ _ _ (O.drop k) (by simp [Act.eval]) o4 (by simp [Act.eval]) (r2.below hHeldX) (by first | (simp; done) | (simp; omega)) hHeldX.size ?_
                intro v5 w5 o5 b5 g5 _
                refine hK.out _ _ (hHeldX.trans b5) (fun hHeldY => ?_)
                clear hK K
                simp only [Act.put, List.setIfInBounds_toArray, List.set_cons_zero, List.set_cons_succ]
                refine takeAt (i := 15) (d := 3) (v := v5) rfl rfl (by kernel_rfl) (by kernel_rfl) (by kernel_rfl) (fun _ _ _ h => h) (Or.inl ⟨by rfl, fun w hSw => by go_simp⟩) hHeldY ?_
                simp only [List.setIfInBounds_toArray, List.set_cons_zero, List.set_cons_succ]
                refine wpAnyH_done (by kernel_rfl) ?_ _
                go_wp2
                go_roundw
                case rel => exact ⟨i + 1, O.take k ++ x :: O.drop k, by go_num, by omega, by have := o5.mono hbs0; simpa using this, FIN.out.1, FIN.out.2.1, FIN.out.2.2, hbw.trans ((hbs.trans (hHeldY.mono hbs.size)).mono hbw.size)⟩
                case measure => first | (simp [intOf]; done) | (simp [intOf]; omega)
            · rw [if_pos (by rfl)]
              go_simp
              refine hK.out _ _ (hHeld.alloc (hHeld.size) _) (fun hHeld1 => ?_)
              clear hK K
              refine wpAnyH_ready (rs := [0]) (by kernel_rfl) (by simp) ?_
              refine (AllReadyH.cons (o := { dst := some 30, op := Go.Op.buildSlice 22 0 #[], type := 22, pos := "ref.go:115", after := #[], guard := none }) rfl (fun K hK => ?_) AllReadyH.nil)
              rw [if_pos (by rfl)]
              go_simp
              refine hK.out _ _ (hHeld1.alloc (hHeld1.size) _) (fun hHeld2 => ?_)
              clear hK K
              refine wpAnyH_ready (rs := [4]) (by kernel_rfl) (by simp) ?_
              refine (AllReadyH.cons (o := { dst := some 34, op := Go.Op.call { callee := Go.Callee.builtin Go.Builtin.append, args := #[Go.Operand.tmp 30, Go.Operand.tmp 33], argTypes := #[22, 22] }, type := 22, pos := "ref.go:115", after := #[{ on := 0, ground := Go.Ground.data }, { on := 3, ground := Go.Ground.data }], guard := none }) rfl (fun K hK => ?_) AllReadyH.nil)
              refine step_appV rfl (.tmp 30) (.tmp 33) rfl w1.heap.size _ _ [] (O.take k) (by simp [Act.eval]) (OwnV.made _ hHeld1.size) (by simp [Act.eval]) (r1.below hHeld2) (by first | (simp; done) | (simp; omega)) hHeld2.size ?_
              intro v3 w3 o3 b3 g3 _
              refine hK.out _ _ (hHeld2.trans b3) (fun hHeld3 => ?_)
              clear hK K
              simp only [Act.put, List.setIfInBounds_toArray, List.set_cons_zero, List.set_cons_succ]
              refine wpAnyH_ready (rs := [10]) (by kernel_rfl) (by simp) ?_
              refine (AllReadyH.cons (o := { dst := some 40, op := Go.Op.call { callee := Go.Callee.builtin Go.Builtin.append, args := #[Go.Operand.tmp 34, Go.Operand.tmp 39], argTypes := #[22, 22] }, type := 22, pos := "ref.go:115", after := #[{ on := 4, ground := Go.Ground.data }, { on := 9, ground := Go.Ground.data }, { on := 4, ground := Go.Ground.chain }], guard := none }) rfl (fun K hK => ?_) AllReadyH.nil)
              refine step_appV rfl (.tmp 34) (.tmp 39) rfl w1.heap.size _ _ _ [x] (by simp [Act.eval]) o3 (by simp [Act.eval]) (RdV.far g3 ((RdV.one w1.drew x _ rfl).below ((Below.refl _ _).alloc (Nat.le_refl _) _)) (by simp [Value.ownBlock])) (by first | (simp; done) | (simp; omega)) hHeld3.size ?_
              intro v4 w4 o4 b4 g4 _
              refine hK.out _ _ (hHeld3.trans b4) (fun hHeldX => ?_)
              clear hK K
              simp only [Act.put, List.setIfInBounds_toArray, List.set_cons_zero, List.set_cons_succ]
              refine wpAnyH_ready (rs := [14]) (by kernel_rfl) (by simp) ?_
              refine (AllReadyH.cons (o := { dst := some 44, op := Go.Op.call { callee := Go.Callee.builtin Go.Builtin.append, args := #[Go.Operand.tmp 40, Go.Operand.tmp 43], argTypes := #[22, 22] }, type := 22, pos := "ref.go:115", after := #[{ on := 10, ground := Go.Ground.data }, { on := 13, ground := Go.Ground.data }, { on := 10, ground := Go.Ground.chain }], guard := none }) rfl (fun K hK => ?_) AllReadyH.nil)
              refine step_appV rfl (.tmp 40) (.tmp 43) rfl w1.heap.size _ _ _ (O.drop k) (by simp [Act.eval]) o4 (by simp [Act.eval]) (r2.below hHeldX) (by first | (simp; done) | (simp; omega)) hHeldX.size ?_
              intro v5 w5 o5 b5 g5 _
              refine hK.out _ _ (hHeldX.trans b5) (fun hHeldY => ?_)
              clear hK K
              simp only [Act.put, List.setIfInBounds_toArray, List.set_cons_zero, List.set_cons_succ]
              refine takeAt (i := 15) (d := 3) (v := v5) rfl rfl (by kernel_rfl) (by kernel_rfl) (by kernel_rfl) (fun _ _ _ h => h) (Or.inl ⟨by rfl, fun w hSw => by go_simp⟩) hHeldY ?_
              simp only [List.setIfInBounds_toArray, List.set_cons_zero, List.set_cons_succ]
              refine wpAnyH_done (by kernel_rfl) ?_ _
              go_wp2
              go_roundw
              case rel => exact ⟨i + 1, O.take k ++ x :: O.drop k, by go_num, by omega, by have := o5.mono hbs0; simpa using this, FIN.out.1, FIN.out.2.1, FIN.out.2.2, hbw.trans ((hbs.trans (hHeldY.mono hbs.size)).mono hbw.size)⟩
              case measure => first | (simp [intOf]; done) | (simp [intOf]; omega)
    · have hge : ¬ (i : Int) < (N : Int) := by omega
      obtain rfl : i = N := by omega
      have HF : Hid (∀ v' w', Below w.heap.size w w' → RdV w' v' O → RdE w' v' (O.map (·.1)) ∧ StableOf ltT l (O.map (·.1)) ∧ (O.map (·.1)).length = l.length) := hid (fun v' w' hb h => by
        have h1 := HS.out
        rw [List.take_of_length_le (by have := HNX.out; omega)] at h1
        have h2 := stable_map h1
        rw [HX.out] at h2
        exact ⟨h.rdE (fun p hp => (HL.out p ((h1.mem ltE_ord).1 hp)).below hb), h2, by rw [List.length_map]; exact HOL.out.trans HLN.out⟩)
      clear hcell HS HOL
      go_wp2_with fail
      go_ret
      obtain ⟨k1, k2, k3⟩ := HF.out _ _ hbw ho.rd
      exact ⟨_, _, rfl, k1, k2, k3, hbw⟩
end Go.Proofs.YtaoeabnpmpimgaaDoor
end
