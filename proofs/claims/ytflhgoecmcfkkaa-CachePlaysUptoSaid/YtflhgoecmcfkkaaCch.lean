/-
  A cache in memory: items in a chain that is linked both ways. Conditions: those that each theorem names.
-/
import Derived.Test.YtflhgoecmcfkkaaRows
import Derived.Test.YtflhgoecmcfkkaaBase
import Derived.LaidEqlPtr
import Derived.Maps.OwnSet
import Derived.Maps.OwnOps
import Derived.Maps.Views
import Derived.WalkSpells
import Derived.Laws.Rows
namespace Go.Icz
open Go.RowKit
/-- What has turned lies in S. -/
structure Tch (S : Nat → Prop) (w w' : World) : Prop where
  os : w'.os = w.os
  tape : w'.tape = w.tape
  output : w'.output = w.output
  size : w.heap.size ≤ w'.heap.size
  block : ∀ k, k < w.heap.size → ¬ S k → w'.heap[k]? = w.heap[k]?
theorem Tch.refl (S : Nat → Prop) (w : World) : Tch S w w := ⟨rfl, rfl, rfl, Nat.le_refl _, fun _ _ _ => rfl⟩
theorem Tch.trans {S : Nat → Prop} {a b c : World} (h : Tch S a b) (k : Tch S b c) : Tch S a c :=
  ⟨k.os.trans h.os, k.tape.trans h.tape, k.output.trans h.output, Nat.le_trans h.size k.size, fun j hj hn => (k.block j (Nat.lt_of_lt_of_le hj h.size) hn).trans (h.block j hj hn)⟩
theorem Tch.mono {S T : Nat → Prop} {w w' : World} (h : Tch S w w') (hST : ∀ k, S k → T k) : Tch T w w' := ⟨h.os, h.tape, h.output, h.size, fun j hj hn => h.block j hj (fun hs => hn (hST j hs))⟩
/-- The second may turn what is new as well. -/
theorem Tch.out {S T : Nat → Prop} {w0 w w' : World} (h : Tch S w0 w) (k : Tch T w w') (hT : ∀ j, T j → S j ∨ w0.heap.size ≤ j) : Tch S w0 w' :=
  ⟨k.os.trans h.os, k.tape.trans h.tape, k.output.trans h.output, Nat.le_trans h.size k.size, fun j hj hn => (k.block j (Nat.lt_of_lt_of_le hj h.size) (fun ht => by rcases hT j ht with h1 | h1; exact hn h1; omega)).trans (h.block j hj hn)⟩
theorem Tch.of_below {S : Nat → Prop} {w w' : World} (h : Below w.heap.size w w') : Tch S w w' := ⟨h.os, h.tape, h.output, h.size, fun j hj _ => h.block j hj⟩
theorem Tch.alloc (S : Nat → Prop) (w : World) (o : Obj) : Tch S w (w.alloc o) := .of_below ((Below.refl _ w).alloc (Nat.le_refl _) _)
theorem Tch.drew (S : Nat → Prop) (w : World) : Tch S w w.drew := ⟨rfl, rfl, rfl, Nat.le_refl _, fun _ _ _ => rfl⟩
theorem Tch.set (S : Nat → Prop) (w : World) (p : Addr) (u : Value) (hp : S p.block) : Tch S w (w.setCell p u) :=
  ⟨rfl, rfl, rfl, by simp [World.setCell], fun k _ hk => Below.heap_setCell _ _ _ _ (fun e => hk (by rw [e]; exact hp))⟩
theorem Tch.below {S : Nat → Prop} {B : Nat} {a w w' : World} (h : Below B a w) (k : Tch S w w') (hS : ∀ j, S j → B ≤ j) (hB : B ≤ w.heap.size) : Below B a w' :=
  h.trans ⟨k.os, k.tape, k.output, k.size, fun j hj => k.block j (by omega) (fun hs => by have := hS j hs; omega)⟩
theorem Tch.row {S : Nat → Prop} {w w' : World} (h : Tch S w w') {b : Nat} {cs : Array Value} {t : TypeId} {z : Nat × Nat} (hr : w.heap[b]? = some (.cells cs t z)) (hn : ¬ S b) : w'.heap[b]? = some (.cells cs t z) :=
  (h.block b (Array.getElem?_eq_some_iff.1 hr).1 hn).trans hr
theorem row_set {w : World} {b i : Nat} {cs : Array Value} {t : TypeId} (h : w.heap[b]? = some (.cells cs t (0, 0))) (u : Value) : (w.setCell ⟨b, i, none⟩ u).heap[b]? = some (.cells (cs.setIfInBounds i u) t (0, 0)) := by
  simp [World.setCell, Array.getElem?_modify, h]
theorem row_lt {w : World} {b : Nat} {cs : Array Value} {t : TypeId} {z : Nat × Nat} (h : w.heap[b]? = some (.cells cs t z)) : b < w.heap.size := (Array.getElem?_eq_some_iff.1 h).1
theorem row_alloc {w : World} {b : Nat} {cs : Array Value} {t : TypeId} {z : Nat × Nat} (h : w.heap[b]? = some (.cells cs t z)) (o : Obj) : (w.alloc o).heap[b]? = some (.cells cs t z) := (heap_alloc_old w o (row_lt h)).trans h
theorem row_far {w : World} {b c i : Nat} {cs : Array Value} {t : TypeId} {z : Nat × Nat} (h : w.heap[b]? = some (.cells cs t z)) (u : Value) (hne : b ≠ c) : (w.setCell ⟨c, i, none⟩ u).heap[b]? = some (.cells cs t z) :=
  (Tch.set (· = c) w ⟨c, i, none⟩ u rfl).row h hne

theorem held_cell {w : World} {b i : Nat} {cs : Array Value} {t : TypeId} {v : Value} (h : w.heap[b]? = some (.cells cs t (0, 0))) (hv : cs[i]? = some v) : w.cell? ⟨b, i, none⟩ = some v := by
  rw [cell_of_row _ _ _ _ _ _ h]
  exact hv
theorem held_frozen {w : World} {b i : Nat} {cs : Array Value} {t : TypeId} (h : w.heap[b]? = some (.cells cs t (0, 0))) : w.frozen? ⟨b, i, none⟩ = false := by simp [World.frozen?, h]
/-- An item: its key, its value, its node's block, the value as it lies in the node. -/
structure It where
  key : ByteArray
  val : List Nat
  g : Nat
  sv : Value
def nl : Value := .pointer none
def It.p (e : It) : Value := .pointer (some ⟨e.g, 0, none⟩)
/-- The pointer to the first; x where there is none. -/
def hdP (l : List It) (x : Value) : Value := match l with | [] => x | e :: _ => e.p
/-- The pointer to the last; p where there is none. -/
def lsP (p : Value) : List It → Value
  | [] => p
  | e :: r => lsP e.p r
theorem hdP_app (xs ys : List It) (x : Value) : hdP (xs ++ ys) x = hdP xs (hdP ys x) := by cases xs <;> rfl
theorem lsP_app : ∀ (p : Value) (xs ys : List It), lsP p (xs ++ ys) = lsP (lsP p xs) ys
  | _, [], _ => rfl
  | _, e :: r, ys => lsP_app e.p r ys
theorem lsP_snoc (p : Value) (xs : List It) (e : It) : lsP p (xs ++ [e]) = e.p := by rw [lsP_app]; rfl
def gs (l : List It) : List Nat := l.map (·.g)
theorem gs_app (xs ys : List It) : gs (xs ++ ys) = gs xs ++ gs ys := List.map_append
theorem mem_gs {l : List It} {e : It} (h : e ∈ l) : e.g ∈ gs l := List.mem_map.2 ⟨e, h, rfl⟩
end Go.Icz
namespace Go.Proofs.Ytflhgoecmcfkkaa
open Go.RowKit Go.Icz
theorem std : Std Try.prog := ⟨Try.underlying32, Try.underlying5, Try.underlying9, by kernel_rfl⟩
/-- An item's node. -/
def Nd (w : World) (e : It) (a b : Value) : Prop := w.heap[e.g]? = some (.cells #[.string e.key, e.sv, a, b] 71 (0, 0))
theorem Nd.touch {S : Nat → Prop} {w w' : World} {e : It} {a b : Value} (h : Nd w e a b) (k : Tch S w w') (hn : ¬ S e.g) : Nd w' e a b := k.row h hn
theorem Nd.lt {w : World} {e : It} {a b : Value} (h : Nd w e a b) : e.g < w.heap.size := row_lt h
theorem Nd.setB {w : World} {e : It} {a b : Value} (h : Nd w e a b) (v : Value) : Nd (w.setCell ⟨e.g, 3, none⟩ v) e a v := row_set h v
theorem Nd.setA {w : World} {e : It} {a b : Value} (h : Nd w e a b) (v : Value) : Nd (w.setCell ⟨e.g, 2, none⟩ v) e v b := row_set h v
/-- The nodes of l, each leading to the ones next to it; p ahead of them, x behind. -/
def Chain (w : World) : Value → List It → Value → Prop
  | _, [], _ => True
  | p, e :: r, x => Nd w e p (hdP r x) ∧ Chain w e.p r x
theorem chain_app {w : World} {x : Value} : ∀ (p : Value) (xs ys : List It), Chain w p (xs ++ ys) x ↔ Chain w p xs (hdP ys x) ∧ Chain w (lsP p xs) ys x
  | _, [], _ => by simp [Chain, lsP]
  | p, e :: r, ys => by
    simp only [List.cons_append, Chain, lsP, chain_app e.p r ys, hdP_app, and_assoc]
theorem Chain.touch {S : Nat → Prop} {w w' : World} {x : Value} (k : Tch S w w') : ∀ {p : Value} {l : List It}, Chain w p l x → (∀ e ∈ l, ¬ S e.g) → Chain w' p l x
  | _, [], _, _ => trivial
  | _, _ :: _, ⟨h1, h2⟩, hn => ⟨h1.touch k (hn _ (List.mem_cons_self ..)), Chain.touch k h2 fun e he => hn e (List.mem_cons_of_mem _ he)⟩
theorem Chain.lt {w : World} {x : Value} : ∀ {p : Value} {l : List It}, Chain w p l x → ∀ e ∈ l, e.g < w.heap.size
  | _, _ :: _, ⟨h1, h2⟩, e', he => by
    rcases List.mem_cons.1 he with rfl | h
    · exact h1.lt
    · exact Chain.lt h2 e' h
theorem Chain.node {w : World} {x : Value} {p : Value} {l : List It} (h : Chain w p l x) {e : It} (he : e ∈ l) : ∃ a b, Nd w e a b := by
  obtain ⟨s, t, rfl⟩ := List.append_of_mem he
  exact ⟨_, _, ((chain_app p s (e :: t)).1 h).2.1⟩
/-- The last one's way on is turned. -/
theorem Chain.setLast {w : World} {p x : Value} {xs : List It} {a : It} (h : Chain w p (xs ++ [a]) x) (hn : a.g ∉ gs xs) (v : Value) : Chain (w.setCell ⟨a.g, 3, none⟩ v) p (xs ++ [a]) v := by
  obtain ⟨h1, h2, _⟩ := (chain_app p xs [a]).1 h
  refine (chain_app p xs [a]).2 ⟨?_, h2.setB v, trivial⟩
  exact Chain.touch (Tch.set (· = a.g) w ⟨a.g, 3, none⟩ v rfl) h1 fun e he hh => hn (by rw [← hh]; exact mem_gs he)
/-- The first one's way back is turned. -/
theorem Chain.setFirst {w : World} {p x : Value} {ys : List It} {b : It} (h : Chain w p (b :: ys) x) (hn : b.g ∉ gs ys) (v : Value) : Chain (w.setCell ⟨b.g, 2, none⟩ v) v (b :: ys) x := by
  obtain ⟨h1, h2⟩ := h
  exact ⟨h1.setA v, Chain.touch (Tch.set (· = b.g) w ⟨b.g, 2, none⟩ v rfl) h2 fun e he hh => hn (by rw [← hh]; exact mem_gs he)⟩
/-- A shelf's row. -/
def shR (li us hi mi : Int) (f l : Value) (m : Value) : Array Value := #[.int .i64 li, .int .i64 us, .int .i64 hi, .int .i64 mi, f, l, m]
end Go.Proofs.Ytflhgoecmcfkkaa
