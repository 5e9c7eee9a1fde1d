/-
  What the reference's decoder answers, of any bytes: what numD and txtD say. Conditions: the decoder was made by New; its bytes lie in a block of their own.
-/
import Derived.Test.YtaoeabnpmpimgaaDoorDec
import Derived.Deep.QuietTactic
import Derived.BigQuiet
namespace Go.Icz
open Go.RowKit
/-- The reference's decoder: its three cells in block g below B; all its bytes l in another block; its place; its error. -/
def RDec (w : World) (B g : Nat) (l : List Nat) (a er : Nat) : Prop :=
  ∃ v b0, (0 < l.length → b0 < B ∧ b0 ≠ g) ∧ g < B ∧ g < w.heap.size ∧ a ≤ l.length ∧ w.cell? ⟨g, 0, none⟩ = some v ∧ w.cell? ⟨g, 1, none⟩ = some (.int .i64 (a : Int)) ∧ w.cell? ⟨g, 2, none⟩ = some (.int .i64 (er : Int)) ∧ w.frozen? ⟨g, 1, none⟩ = false ∧ w.frozen? ⟨g, 2, none⟩ = false ∧ RdAt w b0 v l
theorem RDec.below {w w' : World} {B g : Nat} {l : List Nat} {a er : Nat} (h : RDec w B g l a er) (hb : Below B w w') : RDec w' B g l a er := by
  obtain ⟨v, b0, h1, h2, h4, ha, c0, c1, c2, f1, f2, hd⟩ := h
  obtain ⟨A, c, rfl, hc, hr⟩ := hd
  refine ⟨_, b0, h1, h2, Nat.lt_of_lt_of_le h4 hb.size, ha, (hb.cell (p := ⟨g, 0, none⟩) h2).trans c0, (hb.cell (p := ⟨g, 1, none⟩) h2).trans c1, (hb.cell (p := ⟨g, 2, none⟩) h2).trans c2, (hb.frozen (p := ⟨g, 1, none⟩) h2).trans f1, (hb.frozen (p := ⟨g, 2, none⟩) h2).trans f2, A, c, rfl, hc, fun h0 => ?_⟩
  obtain ⟨off, rfl, g1, g2⟩ := hr h0
  exact ⟨off, rfl, Nat.lt_of_lt_of_le g1 hb.size, fun j hj => (hb.cell (p := ⟨b0, off + j, none⟩) (h1 h0).1).trans (g2 j hj)⟩
theorem RDec.mono {w : World} {B B' g : Nat} {l : List Nat} {a er : Nat} (h : RDec w B g l a er) (hB : B ≤ B') : RDec w B' g l a er := by
  obtain ⟨v, b0, h1, h2, h⟩ := h
  exact ⟨v, b0, fun h0 => ⟨by have := h1 h0; omega, (h1 h0).2⟩, by omega, h⟩
theorem RDec.setErr {w : World} {B g : Nat} {l : List Nat} {a er : Nat} (h : RDec w B g l a er) (e2 : Nat) : RDec (w.setCell ⟨g, 2, none⟩ (.int .i64 (e2 : Int))) B g l a e2 := by
  obtain ⟨v, b0, h1, h2, h4, ha, c0, c1, c2, f1, f2, hd⟩ := h
  refine ⟨v, b0, h1, h2, by simpa using h4, ha, ?_, ?_, World.cell?_setCell_same' w _ _ (by rw [c2]; rfl), by simpa using f1, by simpa using f2, hd.grown (grown_set w g 2 _) (fun h0 => by simpa using (h1 h0).2)⟩
  · rw [World.cell?_setCell_other _ _ _ _ (by simp)]; exact c0
  · rw [World.cell?_setCell_other _ _ _ _ (by simp)]; exact c1
theorem RDec.setAt {w : World} {B g : Nat} {l : List Nat} {a er : Nat} (h : RDec w B g l a er) (a2 : Nat) (ha2 : a2 ≤ l.length) : RDec (w.setCell ⟨g, 1, none⟩ (.int .i64 (a2 : Int))) B g l a2 er := by
  obtain ⟨v, b0, h1, h2, h4, ha, c0, c1, c2, f1, f2, hd⟩ := h
  refine ⟨v, b0, h1, h2, by simpa using h4, ha2, ?_, World.cell?_setCell_same' w _ _ (by rw [c1]; rfl), ?_, by simpa using f1, by simpa using f2, hd.grown (grown_set w g 1 _) (fun h0 => by simpa using (h1 h0).2)⟩
  · rw [World.cell?_setCell_other _ _ _ _ (by simp)]; exact c0
  · rw [World.cell?_setCell_other _ _ _ _ (by simp)]; exact c2
theorem grown_drewN (w : World) (n : Nat) (row : Option Nat) : w.grownBy (w.drewN n) row := ⟨rfl, rfl, rfl, Nat.le_refl _, fun _ _ _ => rfl⟩
theorem grownBy_trans {a b c : World} {row : Option Nat} (h : a.grownBy b row) (k : b.grownBy c row) : a.grownBy c row := World.grownBy.trans h k
def numR (l : List Nat) (a er : Nat) : Nat × Nat × Nat :=
  if er ≠ 0 then (0, a, er) else if (rdn (l.drop a)).2.2 ≠ 0 then (0, a, (rdn (l.drop a)).2.2) else ((rdn (l.drop a)).1, a + (rdn (l.drop a)).2.1, 0)
theorem numR_D (l : List Nat) (a er : Nat) : numD (l.drop a) er = ((numR l a er).1, l.drop (numR l a er).2.1, (numR l a er).2.2) := by
  unfold numD numR
  split
  · rfl
  · split
    · rfl
    · simp only [List.drop_drop]
def txtR (l : List Nat) (a er : Nat) : List Nat × Nat × Nat :=
  if er ≠ 0 then ([], a, er) else if (rdt (l.drop a)).2.2 ≠ 0 then ([], a, (rdt (l.drop a)).2.2) else ((rdt (l.drop a)).1, a + (rdt (l.drop a)).2.1, 0)
theorem txtR_D (l : List Nat) (a er : Nat) : txtD (l.drop a) er = ((txtR l a er).1, l.drop (txtR l a er).2.1, (txtR l a er).2.2) := by
  unfold txtD txtR
  split
  · rfl
  · split
    · rfl
    · simp only [List.drop_drop]
/-- What the reference's number answers at place p. -/
def numAt (l : List Nat) (p : Nat) : Nat × Nat × Nat := if (rdn (l.drop p)).2.2 = 0 then ((rdn (l.drop p)).1, p + (rdn (l.drop p)).2.1, 0) else (0, 0, (rdn (l.drop p)).2.2)
theorem numAt_of {l : List Nat} {p : Nat} {x s : Nat} (h : (x, s, 0) = rdn (l.drop p)) : numAt l p = (x, p + s, 0) := by simp [numAt, ← h]
theorem numAt_no {l : List Nat} {p : Nat} {er : Nat} (h : (0, 0, er) = rdn (l.drop p)) (he : er ≠ 0) : numAt l p = (0, 0, er) := by simp [numAt, ← h, he]
theorem rdGo_err : ∀ (l : List Nat) (i a : Nat), (rdGo l i a).2.2 ≠ 0 → (rdGo l i a).1 = 0 ∧ (rdGo l i a).2.1 = 0
  | [], _, _, _ => ⟨rfl, rfl⟩
  | c :: l, i, a, h => by
    unfold rdGo at h ⊢
    split
    · rename_i h1; rw [if_pos h1] at h; exact rdGo_err l _ _ h
    · rename_i h1
      rw [if_neg h1] at h
      split
      · exact ⟨rfl, rfl⟩
      · rename_i h2; rw [if_neg h2] at h; exact absurd rfl h
end Go.Icz
namespace Go.Proofs.YtaoeabnpmpimgaaDoor
open Go.RowKit Go.Icz
theorem r_facts {x k a : Nat} (_hx : x < 256) (hk : k ≤ 7) (ha : a < 128 ^ k) :
    ∃ y a2 : Nat, wrap64 ((x : Int) % 128 * 2 ^ (7 * k)) = (y : Int) ∧ wrap64 ((a : Int) + (y : Int)) = (a2 : Int) ∧ a2 = a + x % 128 * 128 ^ k ∧ a2 < 128 ^ (k + 1) ∧ a2 < 72057594037927936 ∧ y < 72057594037927936 := by
  have hp : 128 ^ k ≤ 128 ^ 7 := Nat.pow_le_pow_right (by omega) hk
  have hm : x % 128 * 128 ^ k ≤ 127 * 128 ^ k := Nat.mul_le_mul_right _ (by omega)
  refine ⟨x % 128 * 128 ^ k, a + x % 128 * 128 ^ k, ?_, by unfold wrap64; omega, rfl, by rw [Nat.pow_succ]; omega, by omega, by omega⟩
  have e : (x : Int) % 128 * 2 ^ (7 * k) = ((x % 128 * 128 ^ k : Nat) : Int) := by
    rw [show (128 : Nat) ^ k = 2 ^ (7 * k) by rw [Nat.pow_mul]]
    simp
  rw [e]
  exact IntWalk.wrap64_in _ ⟨by omega, by omega⟩
/-- The reference's decoder in g has turned, and nothing else. -/
def RTook (w : World) (B g : Nat) (x : Value) (l : List Nat) (a er : Nat) (e : Ending) (w' : World) : Prop :=
  e = .returned x ∧ RDec w' B g l a er ∧ w.grownBy w' (some g)
theorem run_part2 (v : Value) {A : Option Addr} {n c : Nat} {lo hi : Int} {lo' hi' : Nat} (e1 : lo = (lo' : Int)) (e2 : hi = (hi' : Int)) (h1 : lo' ≤ hi') (h2 : hi' ≤ c) (_hv : v = .slice A n c) (wx : World) : (Instr.slice 66 (.slice A n c) (some (.int .i64 lo)) (some (.int .i64 hi)) none).run Tryd.prog wx = .ok (sliced A lo' hi' c 1) wx := by
  rw [e1, e2]
  exact run_partB h1 h2 wx
end Go.Proofs.YtaoeabnpmpimgaaDoor
