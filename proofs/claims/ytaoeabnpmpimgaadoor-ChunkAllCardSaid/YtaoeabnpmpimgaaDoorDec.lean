/-
  What codec's decoder answers, of any bytes: what numD and txtD say. Conditions: the decoder was made by New; its bytes lie in a block of their own.
-/
import Derived.Test.YtaoeabnpmpimgaaDoorRdWalk
import Derived.Deep.AppendLies
namespace Go.Icz
open Go.RowKit
/-- The slice v, of bytes in block b0, reads as l. -/
def RdAt (w : World) (b0 : Nat) (v : Value) (l : List Nat) : Prop :=
  ∃ A c, v = .slice A l.length c ∧ l.length ≤ c ∧ (0 < l.length → ∃ off, A = some ⟨b0, off, none⟩ ∧ b0 < w.heap.size ∧ ∀ j (hj : j < l.length), w.cell? ⟨b0, off + j, none⟩ = some (.int .u8 (l[j] : Int)))
theorem RdAt.rd {w : World} {b0 : Nat} {v : Value} {l : List Nat} (h : RdAt w b0 v l) : Rd w v l := by
  obtain ⟨A, c, rfl, hc, hr⟩ := h
  exact ⟨A, c, rfl, hc, fun h0 => by obtain ⟨off, rfl, h1, h2⟩ := hr h0; exact ⟨b0, off, rfl, h1, h2⟩⟩
theorem RdAt.zero (w : World) (b0 : Nat) (A : Option Addr) (c : Nat) : RdAt w b0 (.slice A 0 c) [] := ⟨A, c, rfl, Nat.zero_le _, fun h => absurd h (by simp)⟩
theorem RdAt.grown {w w' : World} {b0 : Nat} {v : Value} {l : List Nat} {row : Option Nat} (h : RdAt w b0 v l) (hg : w.grownBy w' row) (hb : 0 < l.length → some b0 ≠ row) : RdAt w' b0 v l := by
  obtain ⟨A, c, rfl, hc, hr⟩ := h
  refine ⟨A, c, rfl, hc, fun h0 => ?_⟩
  obtain ⟨off, rfl, h1, h2⟩ := hr h0
  exact ⟨off, rfl, Nat.lt_of_lt_of_le h1 hg.size, fun j hj => (hg.cell_far ⟨b0, off + j, none⟩ h1 (hb h0)).trans (h2 j hj)⟩
theorem RdAt.slice {w : World} {b0 : Nat} {A : Option Addr} {c : Nat} {l : List Nat} (h : RdAt w b0 (.slice A l.length c) l) (lo hi : Nat) (h1 : lo ≤ hi) (h2 : hi ≤ l.length) : RdAt w b0 (sliced A lo hi c 1) ((l.drop lo).take (hi - lo)) := by
  obtain ⟨A', c', hv, hc, hr⟩ := h
  injection hv with e1 e2 e3
  subst e1 e3
  unfold sliced
  have hl : ((l.drop lo).take (hi - lo)).length = hi - lo := by rw [List.length_take, List.length_drop]; omega
  refine ⟨_, c - lo, by rw [hl], by rw [hl]; omega, fun h0 => ?_⟩
  rw [hl] at h0
  obtain ⟨off, rfl, hlt, hcell⟩ := hr (by omega)
  refine ⟨off + lo, by rw [if_neg (by omega)]; simp [add_flat], hlt, fun j hj => ?_⟩
  rw [hl] at hj
  have h := hcell (lo + j) (by omega)
  rw [← Nat.add_assoc] at h
  simp only [List.getElem_take, List.getElem_drop]
  exact h
/-- A decoder's three cells in block g below B; its bytes l in another block below B; its error. -/
def DecAt (w : World) (B0 B g : Nat) (l : List Nat) (er : Nat) : Prop :=
  ∃ v b0, (0 < l.length → B0 ≤ b0 ∧ b0 < B ∧ b0 ≠ g) ∧ (B0 ≤ g ∧ g < B) ∧ g < w.heap.size ∧ w.cell? ⟨g, 0, none⟩ = some (.bool true) ∧ w.cell? ⟨g, 1, none⟩ = some v ∧ w.cell? ⟨g, 2, none⟩ = some (.int .i64 (er : Int)) ∧ w.frozen? ⟨g, 1, none⟩ = false ∧ w.frozen? ⟨g, 2, none⟩ = false ∧ RdAt w b0 v l
theorem grown_set (w : World) (g o : Nat) (u : Value) : w.grownBy (w.setCell ⟨g, o, none⟩ u) (some g) := by
  refine ⟨rfl, rfl, rfl, by simp [World.setCell], fun k _ hk => ?_⟩
  have hne : k ≠ g := fun e => hk (by rw [e])
  exact Below.heap_setCell _ _ _ _ hne
theorem DecAt.grown {w w' : World} {B0 B g : Nat} {l : List Nat} {er : Nat} {row : Option Nat} (h : DecAt w B0 B g l er) (hg : w.grownBy w' row) (hr : ∀ k, row = some k → B ≤ k) : DecAt w' B0 B g l er := by
  obtain ⟨v, b0, h1, h2, h4, c0, c1, c2, f1, f2, hd⟩ := h
  have hne : some g ≠ row := fun e => by have := hr g e.symm; omega
  refine ⟨v, b0, h1, h2, Nat.lt_of_lt_of_le h4 hg.size, (hg.cell_far ⟨g, 0, none⟩ h4 hne).trans c0, (hg.cell_far ⟨g, 1, none⟩ h4 hne).trans c1, (hg.cell_far ⟨g, 2, none⟩ h4 hne).trans c2, (hg.frozen_far ⟨g, 1, none⟩ h4 hne).trans f1, (hg.frozen_far ⟨g, 2, none⟩ h4 hne).trans f2, hd.grown hg (fun h0 e => by have := hr b0 e.symm; have := h1 h0; omega)⟩
theorem DecAt.below {w w' : World} {B0 B g : Nat} {l : List Nat} {er : Nat} (h : DecAt w B0 B g l er) (hb : Below B w w') : DecAt w' B0 B g l er := by
  obtain ⟨v, b0, h1, h2, h4, c0, c1, c2, f1, f2, hd⟩ := h
  obtain ⟨A, c, rfl, hc, hr⟩ := hd
  refine ⟨_, b0, h1, h2, Nat.lt_of_lt_of_le h4 hb.size, (hb.cell (p := ⟨g, 0, none⟩) h2.2).trans c0, (hb.cell (p := ⟨g, 1, none⟩) h2.2).trans c1, (hb.cell (p := ⟨g, 2, none⟩) h2.2).trans c2, (hb.frozen (p := ⟨g, 1, none⟩) h2.2).trans f1, (hb.frozen (p := ⟨g, 2, none⟩) h2.2).trans f2, A, c, rfl, hc, fun h0 => ?_⟩
  obtain ⟨off, rfl, g1, g2⟩ := hr h0
  exact ⟨off, rfl, Nat.lt_of_lt_of_le g1 hb.size, fun j hj => (hb.cell (p := ⟨b0, off + j, none⟩) (h1 h0).2.1).trans (g2 j hj)⟩
theorem DecAt.old {w : World} {B0 B g : Nat} {l : List Nat} {er : Nat} (h : DecAt w B0 B g l er) {k o : Nat} (hk : k < B0) (u : Value) : DecAt (w.setCell ⟨k, o, none⟩ u) B0 B g l er := by
  obtain ⟨v, b0, h1, h2, h4, c0, c1, c2, f1, f2, hd⟩ := h
  have hg := grown_set w k o u
  have hne : some g ≠ some k := fun e => by injection e with e; omega
  exact ⟨v, b0, h1, h2, Nat.lt_of_lt_of_le h4 hg.size, (hg.cell_far ⟨g, 0, none⟩ h4 hne).trans c0, (hg.cell_far ⟨g, 1, none⟩ h4 hne).trans c1, (hg.cell_far ⟨g, 2, none⟩ h4 hne).trans c2, (hg.frozen_far ⟨g, 1, none⟩ h4 hne).trans f1, (hg.frozen_far ⟨g, 2, none⟩ h4 hne).trans f2, hd.grown hg (fun h0 e => by injection e with e; have := h1 h0; omega)⟩
theorem DecAt.mono {w : World} {B0 B B' g : Nat} {l : List Nat} {er : Nat} (h : DecAt w B0 B g l er) (hB : B ≤ B') : DecAt w B0 B' g l er := by
  obtain ⟨v, b0, h1, h2, h⟩ := h
  exact ⟨v, b0, fun h0 => ⟨(h1 h0).1, by have := h1 h0; omega, (h1 h0).2.2⟩, by omega, h⟩
theorem DecAt.setErr {w : World} {B0 B g : Nat} {l : List Nat} {er : Nat} (h : DecAt w B0 B g l er) (e2 : Nat) : DecAt (w.setCell ⟨g, 2, none⟩ (.int .i64 (e2 : Int))) B0 B g l e2 := by
  obtain ⟨v, b0, h1, h2, h4, c0, c1, c2, f1, f2, hd⟩ := h
  refine ⟨v, b0, h1, h2, by simpa using h4, ?_, ?_, World.cell?_setCell_same' w _ _ (by rw [c2]; rfl), by simpa using f1, by simpa using f2, hd.grown (grown_set w g 2 _) (fun h0 => by simpa using (h1 h0).2.2)⟩
  · rw [World.cell?_setCell_other _ _ _ _ (by simp)]; exact c0
  · rw [World.cell?_setCell_other _ _ _ _ (by simp)]; exact c1
theorem DecAt.setRest {w : World} {B0 B g b0 : Nat} {v v' : Value} {l : List Nat} {er : Nat} (h1 : 0 < l.length → B0 ≤ b0 ∧ b0 < B ∧ b0 ≠ g) (h2 : B0 ≤ g ∧ g < B) (h4 : g < w.heap.size) (c0 : w.cell? ⟨g, 0, none⟩ = some (.bool true)) (c1 : w.cell? ⟨g, 1, none⟩ = some v) (c2 : w.cell? ⟨g, 2, none⟩ = some (.int .i64 (er : Int))) (f1 : w.frozen? ⟨g, 1, none⟩ = false) (f2 : w.frozen? ⟨g, 2, none⟩ = false)
    (hr : RdAt w b0 v' l) : DecAt (w.setCell ⟨g, 1, none⟩ v') B0 B g l er := by
  refine ⟨v', b0, h1, h2, by simpa using h4, ?_, World.cell?_setCell_same' w _ v' (by rw [c1]; rfl), ?_, by simpa using f1, by simpa using f2, hr.grown (grown_set w g 1 _) (fun h0 => by simpa using (h1 h0).2.2)⟩
  · rw [World.cell?_setCell_other _ _ _ _ (by simp)]; exact c0
  · rw [World.cell?_setCell_other _ _ _ _ (by simp)]; exact c2
/-- The next number of a decoder with bytes l and error er: it, the bytes left, the error. -/
def numD (l : List Nat) (er : Nat) : Nat × List Nat × Nat :=
  if er ≠ 0 then (0, l, er) else if (rdn l).2.2 ≠ 0 then (0, l, (rdn l).2.2) else ((rdn l).1, l.drop (rdn l).2.1, 0)
/-- A text at the beginning of bytes: it, how many bytes it takes, an error. -/
def rdt (l : List Nat) : List Nat × Nat × Nat :=
  if (rdn l).2.2 ≠ 0 then ([], 0, (rdn l).2.2) else if 65536 < (rdn l).1 then ([], 0, 21) else if l.length - (rdn l).2.1 < (rdn l).1 then ([], 0, 20)
  else ((l.drop (rdn l).2.1).take (rdn l).1, (rdn l).2.1 + (rdn l).1, 0)
def txtD (l : List Nat) (er : Nat) : List Nat × List Nat × Nat :=
  if er ≠ 0 then ([], l, er) else if (rdt l).2.2 ≠ 0 then ([], l, (rdt l).2.2) else ((rdt l).1, l.drop (rdt l).2.1, 0)
def doneD (l : List Nat) (er : Nat) : Nat := if er ≠ 0 then er else if 0 < l.length then 21 else 0
theorem rdn_size {l : List Nat} (h : (rdn l).2.2 = 0) : 0 < (rdn l).2.1 ∧ (rdn l).2.1 ≤ 8 ∧ (rdn l).2.1 ≤ l.length := by
  have := rdGo_size l 0 0 (by omega) h
  unfold rdn
  omega
theorem rdt_size {l : List Nat} (h : (rdt l).2.2 = 0) : 0 < (rdt l).2.1 ∧ (rdt l).2.1 ≤ l.length := by
  unfold rdt at h ⊢
  split at h
  · rename_i h1; exact absurd h h1
  · rename_i h1
    rw [if_neg h1]
    split at h
    · cases h
    · rename_i h2
      rw [if_neg h2]
      split at h
      · cases h
      · rename_i h3
        rw [if_neg h3]
        have := rdn_size (l := l) (by omega)
        simp only
        omega
end Go.Icz
namespace Go.Proofs.YtaoeabnpmpimgaaDoor
open Go.RowKit Go.Icz
set_option maxRecDepth 100000 in
theorem run_from (v : Value) {A : Option Addr} {n c s : Nat} (_hv : v = .slice A n c) (h : s ≤ n) (wx : World) : (Instr.slice 66 (.slice A n c) (some (.int .i64 (s : Int))) none none).run Tryd.prog wx = .ok (sliced A s n c 1) wx := by
  have := run_slice_l (P := Tryd.prog) (w := wx) 66 A n c Tryd.underlying66 .i64 (s : Int) (by omega) (by omega)
  rw [this]
  have hz : (sizeOf (Tryd.prog.elem 66)).run Tryd.prog wx = .ok 1 wx := by go_simp
  rw [hz]
  simp [Result.andThen]
set_option maxRecDepth 100000 in
theorem run_partB {A : Option Addr} {n c lo hi : Nat} (h1 : lo ≤ hi) (h2 : hi ≤ c) (wx : World) : (Instr.slice 66 (.slice A n c) (some (.int .i64 (lo : Int))) (some (.int .i64 (hi : Int))) none).run Tryd.prog wx = .ok (sliced A lo hi c 1) wx := by
  have := run_slice_lh (P := Tryd.prog) (w := wx) 66 A n c Tryd.underlying66 .i64 .i64 (lo : Int) (hi : Int) (by omega) (by omega) (by omega)
  rw [this]
  have hz : (sizeOf (Tryd.prog.elem 66)).run Tryd.prog wx = .ok 1 wx := by go_simp
  rw [hz]
  simp [Result.andThen]
/-- The decoder in g has turned, and nothing else. -/
def Took (w : World) (B0 B g : Nat) (x : Value) (l : List Nat) (er : Nat) (e : Ending) (w' : World) : Prop :=
  e = .returned x ∧ DecAt w' B0 B g l er ∧ w.grownBy w' (some g)
theorem Own.rdAt {w : World} {B : Nat} {v : Value} {l : List Nat} (h : Own w B v l) : ∃ b0, (0 < l.length → B ≤ b0 ∧ b0 < w.heap.size) ∧ RdAt w b0 v l := by
  rcases h.2 with ⟨rfl, hn⟩ | ⟨g, cap, cur, hv, hg, hh, hnc, _⟩
  · have hl : l = [] := List.eq_nil_of_length_eq_zero hn
    subst hl
    exact ⟨0, fun h => absurd h (by simp), RdAt.zero _ _ _ _⟩
  · have hlt := (Array.getElem?_eq_some_iff.1 hh).1
    refine ⟨g, fun _ => ⟨hg, hlt⟩, _, cap, hv, hnc, fun _ => ⟨0, rfl, hlt, fun j hj => ?_⟩⟩
    rw [← add_flat]
    refine World.ownsRow.cells h (g := g) (by rw [hv]; rfl) j _ ?_
    simp [cellsB, hj]
/-- New: a decoder in a block of its own, at the beginning of the bytes l. -/
def Newed (w : World) (l : List Nat) (e : Ending) (w' : World) : Prop :=
  ∃ g, e = .returned (.pointer (some ⟨g, 0, none⟩)) ∧ w.heap.size ≤ g ∧ DecAt w' w.heap.size w'.heap.size g l 0 ∧ Below w.heap.size w w'
end Go.Proofs.YtaoeabnpmpimgaaDoor
