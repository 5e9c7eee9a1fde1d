/-
  Plain facts on memory, for any program: what has turned lies in some blocks. Conditions: those that each theorem names.
-/
import Derived.Handy
import Derived.Below
import Derived.ProofKit
import Derived.OpenShut
import Derived.SizedLaws
import Derived.ChangeSame
import Derived.WalkLawsBesides
import Derived.WalkSpells
import Derived.OwnWalk
import Derived.Laws.Rows
import Derived.Lib.Bytealg
import Derived.Deep.AppendLies
import Derived.Deep.RegionLaw
import Derived.Deep.RegionHeld3
namespace Go.Icz
open Go.RowKit
abbrev B8 := List UInt8
abbrev Lab := B8 × B8
theorem hid {p : Prop} (h : p) : Hid p := h
theorem add_flat (b off j : Nat) : (⟨b, off, none⟩ : Addr).add j = ⟨b, off + j, none⟩ := by unfold Addr.add; split <;> simp_all
/-- What has turned lies in S. -/
structure Tch (S : Nat → Prop) (w w' : World) : Prop where
  os : w'.os = w.os
  tape : w'.tape = w.tape
  output : w'.output = w.output
  size : w.heap.size ≤ w'.heap.size
  block : ∀ k, k < w.heap.size → ¬ S k → w'.heap[k]? = w.heap[k]?
theorem Tch.refl (S : Nat → Prop) (w : World) : Tch S w w := ⟨rfl, rfl, rfl, Nat.le_refl _, fun _ _ _ => rfl⟩
theorem Tch.trans {S : Nat → Prop} {a b c : World} (h : Tch S a b) (k : Tch S b c) : Tch S a c :=
  ⟨k.os.trans h.os, k.tape.trans h.tape, k.output.trans h.output, Nat.le_trans h.size k.size, fun j hj hn => (k.block j (Nat.lt_of_lt_of_le hj h.size) hn).trans (h.block j hj hn)⟩
theorem Tch.mono {S T : Nat → Prop} {w w' : World} (h : Tch S w w') (hST : ∀ k, S k → T k) : Tch T w w' := ⟨h.os, h.tape, h.output, h.size, fun j hj hn => h.block j hj (fun hs => hn (hST j hs))⟩
/-- The second may turn what is new as well. -/
theorem Tch.out {S T : Nat → Prop} {w0 w w' : World} (h : Tch S w0 w) (k : Tch T w w') (hT : ∀ j, T j → S j ∨ w0.heap.size ≤ j) : Tch S w0 w' :=
  ⟨k.os.trans h.os, k.tape.trans h.tape, k.output.trans h.output, Nat.le_trans h.size k.size, fun j hj hn => (k.block j (Nat.lt_of_lt_of_le hj h.size) (fun ht => by rcases hT j ht with h1 | h1; exact hn h1; omega)).trans (h.block j hj hn)⟩
theorem Tch.of_below {S : Nat → Prop} {w w' : World} (h : Below w.heap.size w w') : Tch S w w' := ⟨h.os, h.tape, h.output, h.size, fun j hj _ => h.block j hj⟩
theorem Tch.alloc (S : Nat → Prop) (w : World) (o : Obj) : Tch S w (w.alloc o) := .of_below ((Below.refl _ w).alloc (Nat.le_refl _) _)
theorem Tch.drew (S : Nat → Prop) (w : World) : Tch S w w.drew := ⟨rfl, rfl, rfl, Nat.le_refl _, fun _ _ _ => rfl⟩
theorem Tch.set (S : Nat → Prop) (w : World) (p : Addr) (u : Value) (hp : S p.block) : Tch S w (w.setCell p u) :=
  ⟨rfl, rfl, rfl, by simp [World.setCell], fun k _ hk => Below.heap_setCell _ _ _ _ (fun e => hk (by rw [e]; exact hp))⟩
theorem Tch.below {S : Nat → Prop} {B : Nat} {a w w' : World} (h : Below B a w) (k : Tch S w w') (hS : ∀ j, S j → B ≤ j) (hB : B ≤ w.heap.size) : Below B a w' :=
  h.trans ⟨k.os, k.tape, k.output, k.size, fun j hj => k.block j (by omega) (fun hs => by have := hS j hs; omega)⟩
theorem Tch.row {S : Nat → Prop} {w w' : World} (h : Tch S w w') {b : Nat} {cs : Array Value} {t : TypeId} {z : Nat × Nat} (hr : w.heap[b]? = some (.cells cs t z)) (hn : ¬ S b) : w'.heap[b]? = some (.cells cs t z) :=
  (h.block b (Array.getElem?_eq_some_iff.1 hr).1 hn).trans hr
theorem row_set {w : World} {b i : Nat} {cs : Array Value} {t : TypeId} (h : w.heap[b]? = some (.cells cs t (0, 0))) (u : Value) : (w.setCell ⟨b, i, none⟩ u).heap[b]? = some (.cells (cs.setIfInBounds i u) t (0, 0)) := by
  simp [World.setCell, Array.getElem?_modify, h]
theorem row_lt {w : World} {b : Nat} {cs : Array Value} {t : TypeId} {z : Nat × Nat} (h : w.heap[b]? = some (.cells cs t z)) : b < w.heap.size := (Array.getElem?_eq_some_iff.1 h).1
theorem row_alloc {w : World} {b : Nat} {cs : Array Value} {t : TypeId} {z : Nat × Nat} (h : w.heap[b]? = some (.cells cs t z)) (o : Obj) : (w.alloc o).heap[b]? = some (.cells cs t z) := (heap_alloc_old w o (row_lt h)).trans h
theorem row_far {w : World} {b c i : Nat} {cs : Array Value} {t : TypeId} {z : Nat × Nat} (h : w.heap[b]? = some (.cells cs t z)) (u : Value) (hne : b ≠ c) : (w.setCell ⟨c, i, none⟩ u).heap[b]? = some (.cells cs t z) :=
  (Tch.set (· = c) w ⟨c, i, none⟩ u rfl).row h hne

theorem held_cell {w : World} {b i : Nat} {cs : Array Value} {t : TypeId} {v : Value} (h : w.heap[b]? = some (.cells cs t (0, 0))) (hv : cs[i]? = some v) : w.cell? ⟨b, i, none⟩ = some v := by
  rw [cell_of_row _ _ _ _ _ _ h]
  exact hv
theorem held_frozen {w : World} {b i : Nat} {cs : Array Value} {t : TypeId} (h : w.heap[b]? = some (.cells cs t (0, 0))) : w.frozen? ⟨b, i, none⟩ = false := by simp [World.frozen?, h]
theorem Tch.size_le {S : Nat → Prop} {w w' : World} (h : Tch S w w') : w.heap.size ≤ w'.heap.size := h.size
theorem Tch.to_below {S : Nat → Prop} {B : Nat} {w w' : World} (h : Tch S w w') (hS : ∀ j, S j → B ≤ j) (hB : B ≤ w.heap.size) : Below B w w' := Tch.below (Below.refl B w) h hS hB
theorem Tch.grown {S : Nat → Prop} {w w' : World} {r : Option Nat} (h : w.grownBy w' r) (hr : ∀ k, r = some k → S k) : Tch S w w' :=
  ⟨h.os, h.tape, h.output, h.size, fun k hk hn => h.block k hk (fun e => hn (hr k e.symm))⟩
theorem Tch.cell {S : Nat → Prop} {w w' : World} (h : Tch S w w') {b i : Nat} (hb : b < w.heap.size) (hn : ¬ S b) : w'.cell? ⟨b, i, none⟩ = w.cell? ⟨b, i, none⟩ := World.cell?_of_block (h.block b hb hn)
end Go.Icz
