/-
  Lists of int that rise: what sets of numbers are; plain facts on lists of int in memory. Conditions: those that each theorem names.
  What the library's contracts on rows of ints say of slices that the call itself made. Conditions: those that each theorem names.
  What slices.Grow, of no slice, says of the slice that it makes. Conditions: those that the theorem names.
-/
import Derived.Test.YtnlkipgjacgddaaDoorBase
import Derived.Lib.SlicesCompact
import Derived.Lib.OwnBridge
import Derived.Sort.Row
import Derived.Lib.SlKeysI
import Derived.Shelf.GgClosure.Gives
import Derived.Laws.AppendOwn
section
namespace Go.Icz
open Go.RowKit
/-- The list r rises, and has just what S says. -/
def Rises (r : List Int) (S : Int → Prop) : Prop := r.Pairwise (· < ·) ∧ ∀ x, x ∈ r ↔ S x
theorem Rises.congr {r : List Int} {S T : Int → Prop} (h : Rises r S) (e : ∀ x, S x ↔ T x) : Rises r T := ⟨h.1, fun x => (h.2 x).trans (e x)⟩
theorem rise_unique : ∀ {r1 r2 : List Int}, r1.Pairwise (· < ·) → r2.Pairwise (· < ·) → (∀ x, x ∈ r1 ↔ x ∈ r2) → r1 = r2
  | [], [], _, _, _ => rfl
  | [], b :: t, _, _, h => by have := (h b).2 (List.mem_cons_self ..); cases this
  | a :: t, [], _, _, h => by have := (h a).1 (List.mem_cons_self ..); cases this
  | a :: t1, b :: t2, h1, h2, h => by
    obtain ⟨h1a, h1b⟩ := List.pairwise_cons.1 h1
    obtain ⟨h2a, h2b⟩ := List.pairwise_cons.1 h2
    have hab : a = b := by
      rcases List.mem_cons.1 ((h a).1 (List.mem_cons_self ..)) with e | m1
      · exact e
      · rcases List.mem_cons.1 ((h b).2 (List.mem_cons_self ..)) with e | m2
        · exact e.symm
        · have := h2a a m1; have := h1a b m2; omega
    subst hab
    congr 1
    refine rise_unique h1b h2b fun x => ?_
    have hx := h x
    rw [List.mem_cons, List.mem_cons] at hx
    constructor
    · intro m
      have := h1a x m
      rcases hx.1 (.inr m) with e | m2
      · omega
      · exact m2
    · intro m
      have := h2a x m
      rcases hx.2 (.inr m) with e | m2
      · omega
      · exact m2
theorem Rises.one {r1 r2 : List Int} {S T : Int → Prop} (h1 : Rises r1 S) (h2 : Rises r2 T) (e : ∀ x, S x ↔ T x) : r1 = r2 :=
  rise_unique h1.1 h2.1 fun x => (h1.2 x).trans ((e x).trans (h2.2 x).symm)
theorem Rises.filter {r : List Int} {S : Int → Prop} (h : Rises r S) (p : Int → Bool) : Rises (r.filter p) (fun x => S x ∧ p x = true) :=
  ⟨h.1.filter p, fun x => by rw [List.mem_filter, h.2 x]⟩
theorem Rises.none : Rises [] (fun _ => False) := ⟨.nil, fun x => by simp⟩
theorem Rises.isNil {r : List Int} {S : Int → Prop} (h : Rises r S) (e : ∀ x, ¬ S x) : r = [] := by
  cases r with
  | nil => rfl
  | cons a t => exact absurd ((h.2 a).1 (List.mem_cons_self ..)) (e a)
/-- A number that is not there, put into its place. -/
theorem Rises.put {l1 l2 : List Int} {S : Int → Prop} {n : Int} (h : Rises (l1 ++ l2) S) (h1 : ∀ x ∈ l1, x < n) (h2 : ∀ x ∈ l2, n < x) : Rises (l1 ++ n :: l2) (fun x => S x ∨ x = n) := by
  obtain ⟨a, b, c⟩ := List.pairwise_append.1 h.1
  refine ⟨List.pairwise_append.2 ⟨a, List.pairwise_cons.2 ⟨h2, b⟩, fun x hx y hy => ?_⟩, fun x => ?_⟩
  · rcases List.mem_cons.1 hy with rfl | hy
    · exact h1 x hx
    · exact c x hx y hy
  · show x ∈ l1 ++ n :: l2 ↔ S x ∨ x = n
    rw [← h.2 x]; simp only [List.mem_append, List.mem_cons]
    constructor
    · rintro (h | rfl | h)
      · exact .inl (.inl h)
      · exact .inr rfl
      · exact .inl (.inr h)
    · rintro ((h | h) | rfl)
      · exact .inl h
      · exact .inr (.inr h)
      · exact .inr (.inl rfl)
theorem Rises.length {r a b : List Int} {S T U : Int → Prop} (h : Rises r S) (h1 : Rises a T) (h2 : Rises b U) (e : ∀ x, S x ↔ T x ∨ U x) (d : ∀ x, T x → ¬ U x) : r.length = a.length + b.length := by
  have e1 : r.filter (fun x => decide (x ∈ a)) = a := Rises.one (h.filter _) h1 fun x => by
    rw [e x, decide_eq_true_iff, h1.2 x]
    constructor
    · rintro ⟨_, h⟩; exact h
    · intro h; exact ⟨.inl h, h⟩
  have e2 : r.filter (fun x => !decide (x ∈ a)) = b := Rises.one (h.filter _) h2 fun x => by
    rw [e x]
    simp only [Bool.not_eq_true', decide_eq_false_iff_not, h1.2 x]
    constructor
    · rintro ⟨h | h, g⟩
      · exact absurd h g
      · exact h
    · intro h; exact ⟨.inr h, fun g => d x g h⟩
  have key : ∀ (p : Int → Bool) (m : List Int), m.length = (m.filter p).length + (m.filter (fun y => !p y)).length := by
    intro p m
    induction m with
    | nil => rfl
    | cons b t ih => simp only [List.filter_cons, List.length_cons]; cases p b <;> simp <;> omega
  have := key (fun x => decide (x ∈ a)) r
  rw [e1, e2] at this
  exact this
open Go.Lib in
/-- What is sorted, each once. -/
theorem compact_rises (s : List Int) (hs : s.Pairwise (· ≤ ·)) : Rises (Lib.compact s) (fun x => x ∈ s) := by
  have key : ∀ m, m ≤ s.length → (compactUpTo s.toArray m).Pairwise (· < ·) ∧ (∀ x, x ∈ compactUpTo s.toArray m ↔ x ∈ s.take m) := by
    intro m
    induction m with
    | zero => intro _; exact ⟨by simp [compactUpTo], fun x => by simp [compactUpTo]⟩
    | succ m ih =>
      intro hm
      obtain ⟨i1, i2⟩ := ih (by omega)
      have e1 : compactUpTo s.toArray (m + 1) = compactUpTo s.toArray m ++ (if keeps s.toArray m then [s.toArray[m]!] else []) := by
        unfold compactUpTo
        rw [List.range_succ, List.filter_append, List.map_append]
        congr 1
        cases h : keeps s.toArray m <;> simp [h]
      have g1 : s.toArray[m]! = s[m] := by simp [getElem!_pos, show m < s.length by omega]
      rw [e1]
      rcases hk : keeps s.toArray m with _ | _
      · simp only [if_false, Bool.false_eq_true, List.append_nil]
        refine ⟨i1, fun x => ?_⟩
        rw [i2 x, List.take_succ_eq_append_getElem (by omega), List.mem_append, List.mem_singleton]
        refine ⟨.inl, ?_⟩
        rintro (h | rfl)
        · exact h
        · unfold keeps at hk
          rw [decide_eq_false_iff_not] at hk
          have h0 : m ≠ 0 := fun h => hk (.inl h)
          have h2 : s.toArray[m]! = s.toArray[m - 1]! := by
            rcases Decidable.em (s.toArray[m]! = s.toArray[m - 1]!) with h | h
            · exact h
            · exact absurd (.inr h) hk
          have g2 : s.toArray[m - 1]! = s[m - 1] := by simp [getElem!_pos, show m - 1 < s.length by omega]
          rw [g1, g2] at h2
          rw [h2]
          exact List.mem_iff_getElem.2 ⟨m - 1, by rw [List.length_take]; omega, by rw [List.getElem_take]⟩
      · simp only [if_true]
        refine ⟨?_, fun x => ?_⟩
        · refine List.pairwise_append.2 ⟨i1, List.pairwise_singleton _ _, fun x hx y hy => ?_⟩
          obtain rfl := List.mem_singleton.1 hy
          rw [g1]
          have hx' := (i2 x).1 hx
          obtain ⟨j, hj, ej⟩ := List.mem_iff_getElem.1 hx'
          rw [List.length_take] at hj
          rw [List.getElem_take] at ej
          unfold keeps at hk
          rw [decide_eq_true_iff] at hk
          rcases hk with h | h
          · omega
          · have g2 : s.toArray[m - 1]! = s[m - 1] := by simp [getElem!_pos, show m - 1 < s.length by omega]
            rw [g1, g2] at h
            have p1 := List.pairwise_iff_getElem.1 hs (m - 1) m (by omega) (by omega) (by omega)
            have p2 : x ≤ s[m - 1] := by
              rcases Nat.lt_or_ge j (m - 1) with h3 | h3
              · have := List.pairwise_iff_getElem.1 hs j (m - 1) (by omega) (by omega) h3
                rw [ej] at this; exact this
              · obtain rfl : j = m - 1 := by omega
                rw [ej]; omega
            omega
        · rw [List.mem_append, i2 x, g1, List.take_succ_eq_append_getElem (by omega), List.mem_append]
  have := key s.length (Nat.le_refl _)
  rw [List.take_length] at this
  exact this

/-- What is asked of a program: three types' rows. -/
structure StdI (P : Program) : Prop where
  u : P.underlying 34 = some (.slice 3)
  i : (P.info? 3).map (fun i => (i.zero, i.size, i.bytes)) = some (some (.int .i64 0), 1, 8)
def cellsI (l : List Int) : List Value := l.map (Value.int .i64)
theorem cellsI_len (l : List Int) : (cellsI l).length = l.length := by simp [cellsI]
theorem cellsI_app (l m : List Int) : cellsI (l ++ m) = cellsI l ++ cellsI m := by simp [cellsI]
theorem cellsI_one (l : List Int) : ∀ u ∈ cellsI l, u.oneCell' = true := by
  intro u hu
  simp only [cellsI, List.mem_map] at hu
  obtain ⟨n, _, rfl⟩ := hu
  rfl
theorem cellsI_get {l : List Int} {j : Nat} {u : Value} (h : (cellsI l)[j]? = some u) : ∃ hj : j < l.length, u = .int .i64 l[j] := by
  simp only [cellsI, List.getElem?_map] at h
  rcases Nat.lt_or_ge j l.length with hj | hj
  · rw [List.getElem?_eq_getElem hj] at h
    simp at h
    exact ⟨hj, h.symm⟩
  · rw [List.getElem?_eq_none hj] at h
    simp at h
/-- The slice v, made by the call itself in a block from B on, holds just the numbers l. -/
def OwnI (w : World) (B : Nat) (v : Value) (l : List Int) : Prop := w.ownsRow B 3 1 v l.length (cellsI l)
/-- The slice v reads as the numbers l. -/
def RdI (w : World) (v : Value) (l : List Int) : Prop :=
  ∃ A c, v = .slice A l.length c ∧ l.length ≤ c ∧ (0 < l.length → ∃ b off, A = some ⟨b, off, none⟩ ∧ b < w.heap.size ∧ ∀ j (hj : j < l.length), w.cell? ⟨b, off + j, none⟩ = some (.int .i64 l[j]))
theorem OwnI.nil (w : World) (B : Nat) : OwnI w B (.slice none 0 0) [] := World.ownsRow_nil w B 3 1
theorem OwnI.alloc {w : World} {B : Nat} {v : Value} {l : List Int} (h : OwnI w B v l) (o : Obj) : OwnI (w.alloc o) B v l := World.ownsRow.alloc h o
theorem OwnI.below {w w' : World} {B : Nat} {v : Value} {l : List Int} (h : OwnI w B v l) (hb : Below w.heap.size w w') : OwnI w' B v l := by
  refine World.ownsRow.kept (row := none) h ⟨hb.os, hb.tape, hb.output, hb.size, fun k hk _ => hb.block k hk⟩ ?_
  cases hv : v.ownBlock <;> simp
theorem OwnI.mono {w : World} {B B' : Nat} {v : Value} {l : List Int} (h : OwnI w B v l) (hB : B' ≤ B) : OwnI w B' v l := by
  refine ⟨h.1, ?_⟩
  rcases h.2 with h | ⟨g, cap, cur, hv, hg, r⟩
  · exact .inl h
  · exact .inr ⟨g, cap, cur, hv, Nat.le_trans hB hg, r⟩
theorem RdI.nil (w : World) : RdI w (.slice none 0 0) [] := ⟨none, 0, rfl, by simp, fun h => absurd h (by simp)⟩
theorem RdI.zero (w : World) (A : Option Addr) (c : Nat) : RdI w (.slice A 0 c) [] := ⟨A, c, rfl, Nat.zero_le _, fun h => absurd h (by simp)⟩
theorem RdI.below {w w' : World} {v : Value} {l : List Int} (h : RdI w v l) (hb : Below w.heap.size w w') : RdI w' v l := by
  obtain ⟨A, c, hv, hc, hr⟩ := h
  refine ⟨A, c, hv, hc, fun h0 => ?_⟩
  obtain ⟨b, off, hA, hlt, hcell⟩ := hr h0
  exact ⟨b, off, hA, Nat.lt_of_lt_of_le hlt hb.size, fun j hj => (hb.cell (p := ⟨b, off + j, none⟩) hlt).trans (hcell j hj)⟩
theorem RdI.alloc {w : World} {v : Value} {l : List Int} (h : RdI w v l) (o : Obj) : RdI (w.alloc o) v l := h.below ((Below.refl _ _).alloc (Nat.le_refl _) _)
theorem OwnI.rd {w : World} {B : Nat} {v : Value} {l : List Int} (h : OwnI w B v l) : RdI w v l := by
  rcases h.2 with ⟨hv, hn⟩ | ⟨g, cap, cur, hv, hg, hh, hnc, r⟩
  · exact ⟨none, 0, by rw [hv, hn], by omega, fun h0 => absurd hn (by omega)⟩
  · refine ⟨_, cap, hv, hnc, fun _ => ⟨g, 0, rfl, (Array.getElem?_eq_some_iff.1 hh).1, fun j hj => ?_⟩⟩
    rw [← add_flat]
    refine World.ownsRow.cells h (g := g) (by rw [hv]; rfl) j _ ?_
    simp [cellsI, hj]
theorem OwnI.made (w : World) {B : Nat} (hB : B ≤ w.heap.size) : OwnI (w.alloc (.cells #[] 3)) B (.slice (some ⟨w.heap.size, 0, none⟩) 0 0) [] :=
  World.ownsRow_made w #[] 0 hB (by decide) rfl
theorem OwnI.lit (w : World) {B : Nat} (l : List Int) (hl : l.length ≤ maxLen) (hB : B ≤ w.heap.size) : OwnI (w.alloc (.cells (cellsI l).toArray 3)) B (.slice (some ⟨w.heap.size, 0, none⟩) l.length l.length) l := by
  have := World.ownsRow_lit (base := B) (e := 3) (size := 1) w (cellsI l).toArray l.length hB hl (by simp [cellsI])
  unfold OwnI
  simpa using this
theorem OwnI.form {w : World} {B : Nat} {v : Value} {l : List Int} (h : OwnI w B v l) (hl : 0 < l.length) :
    ∃ g cap, v = .slice (some ⟨g, 0, none⟩) l.length cap ∧ B ≤ g ∧ g < w.heap.size ∧ l.length ≤ cap ∧ ∀ j (hj : j < l.length), w.cell? ⟨g, j, none⟩ = some (.int .i64 l[j]) := by
  rcases h.2 with ⟨_, hn⟩ | ⟨g, cap, cur, hv, hg, hh, hnc, r⟩
  · omega
  · refine ⟨g, cap, hv, hg, (Array.getElem?_eq_some_iff.1 hh).1, hnc, fun j hj => ?_⟩
    have e := add_flat g 0 j
    rw [Nat.zero_add] at e
    rw [← e]
    refine World.ownsRow.cells h (g := g) (by rw [hv]; rfl) j _ ?_
    simp [cellsI, hj]
theorem RdI.part {w : World} {A : Option Addr} {c : Nat} {l : List Int} (h : RdI w (.slice A l.length c) l) (lo hi : Nat) (h1 : lo ≤ hi) (h2 : hi ≤ l.length) : RdI w (sliced A lo hi c 1) ((l.drop lo).take (hi - lo)) := by
  obtain ⟨A', c', hv, hc, hr⟩ := h
  injection hv with e1 e2 e3
  subst e1 e3
  unfold sliced
  have hl : ((l.drop lo).take (hi - lo)).length = hi - lo := by rw [List.length_take, List.length_drop]; omega
  refine ⟨_, c - lo, by rw [hl], by rw [hl]; omega, fun h0 => ?_⟩
  rw [hl] at h0
  obtain ⟨b0, off, rfl, hlt, hcell⟩ := hr (by omega)
  refine ⟨b0, off + lo, by rw [if_neg (by omega)]; simp [add_flat], hlt, fun j hj => ?_⟩
  rw [hl] at hj
  have h := hcell (lo + j) (by omega)
  rw [← Nat.add_assoc] at h
  simp only [List.getElem_take, List.getElem_drop]
  exact h
section
variable {P : Program} (S : StdI P)
include S
/-- 'append(v, x...)', x numbers that can be read. -/
theorem wp_appI {ops : Array Oper} {rest : List Oper} {o : Oper} {a : Act} {Q : Exit → Act → World → Prop} {w : World} (hgd : o.guard = none) (s x : Operand)
    (ho : o.op = .call { callee := .builtin .append, args := #[s, x], argTypes := #[34, 34] })
    (B : Nat) (v u : Value) (l m : List Int) (hs : a.eval s = v) (hown : OwnI w B v l) (hx : a.eval x = u) (hr : RdI w u m)
    (hlen : l.length + m.length ≤ 17592186044416) (hB : B ≤ w.heap.size)
    (h : ∀ v' w', OwnI w' B v' (l ++ m) → Below B w w' → (m ≠ [] → v' ≠ .slice none 0 0) → wpList P ops Q rest (a.put o.dst v') w') :
    wpList P ops Q (o :: rest) a w := by
  obtain ⟨i0, hi, hz0, hz1, hz2⟩ := info_parts S.i
  obtain ⟨A, c, rfl, hc, hcell⟩ := hr
  rcases A with _ | ad
  · have hm : m = [] := by
      rcases Nat.eq_zero_or_pos m.length with h0 | h0
      · exact List.eq_nil_of_length_eq_zero h0
      · obtain ⟨b, off, e, _⟩ := hcell h0
        cases e
    subst hm
    refine wpList_plain hgd fun K hK => ?_
    unfold Oper.wp execOp
    have hrun : (Builtin.append_ #[34, 34] o.type #[v, .slice none 0 c]).run P w = .ok v w := by
      rcases hown.2 with ⟨rfl, _⟩ | ⟨g, cap, cur, rfl, _, _, hnc, _⟩
      · simp [Builtin.append_, run_underlying S.u, sizeOf, typeInfo, hi, Builtin.lenOf, Builtin.firstCells]
      · simp [Builtin.append_, run_underlying S.u, sizeOf, typeInfo, hi, Builtin.lenOf, Builtin.firstCells, hnc, storeCells]
    simp only [ho, resolve, invoke, builtin, Sem.run_bind, Sem.run_pure, Result.andThen_ok, List.map_toArray, List.map_cons, List.map_nil, hs, hx, List.length_nil, hrun]
    exact hK _ _ (h v w (by simpa using hown) (Below.refl _ _) (fun h => absurd rfl h))
  · refine wpList_append_own _ hgd s x 34 ho B 3 i0 (.int .i64 0) 1 8 S.u hi hz0 hz1 hz2 rfl (by decide) v l.length (cellsI l) hs hown ad m.length c (cellsI m) hx (by rw [cellsI_len]; omega) ?_ (cellsI_one m) ?_ ?_ hB ?_
    · intro j u hj
      obtain ⟨hj', rfl⟩ := cellsI_get hj
      obtain ⟨b, off, e, _, hc'⟩ := hcell (by omega)
      injection e with e
      subst e
      rw [add_flat]
      exact hc' j hj'
    · unfold maxLen; omega
    · omega
    · intro v' w' h1 h2 h3
      refine h v' w' (by unfold OwnI; rw [cellsI_app, List.length_append]; exact h1) ((Below.refl B w).grown h2 hB (fun k hk => (World.ownsRow.lt hown k hk).1)) (fun hm e => hm (List.eq_nil_of_length_eq_zero (h3.1 e).2))
/-- 'append(v, x)', one number x: the new row. -/
theorem wp_appI1 {ops : Array Oper} {rest : List Oper} {o : Oper} {a : Act} {Q : Exit → Act → World → Prop} {w : World} (hgd : o.guard = none) (s x : Operand)
    (ho : o.op = .call { callee := .builtin .append, args := #[s, x], argTypes := #[34, 34] })
    (B : Nat) (v : Value) (l : List Int) (b : Int) (hs : a.eval s = v) (hown : OwnI w B v l) (hx : a.eval x = .slice (some ⟨w.heap.size, 0, none⟩) 1 1)
    (hlen : l.length ≤ 17592186044415) (hB : B ≤ w.heap.size)
    (h : ∀ v' w', OwnI w' B v' (l ++ [b]) → Below B w w' → v' ≠ .slice none 0 0 → wpList P ops Q rest (a.put o.dst v') w') :
    wpList P ops Q (o :: rest) a (w.alloc (.cells #[.int .i64 b] 3)) := by
  have r := (OwnI.lit (B := w.heap.size) w [b] (by show 1 ≤ maxLen; decide) (Nat.le_refl _)).rd
  refine wp_appI S hgd s x ho B v _ l [b] hs (hown.alloc _) hx r (by simp; omega) (by simp; omega) ?_
  intro v' w' h1 h2 h3
  exact h v' w' h1 (((Below.refl B w).alloc hB _).trans h2) (h3 (by simp))
end
section
open Go.WideShapes Go.ChangeShapes
theorem open_rdI {H : Type} {enc : TypeId × Value → H} {P : Program} (hu : P.underlying 34 = some (.slice 3)) (hi : P.underlying 3 = some (.int .i64)) (hc : P.cellsOf 3 = 1) {W : World} {held : Bool} {a : Option Addr} {len cap : Nat} {d : DataW H} {p : List MemPlace}
    (h : DataW.Trod enc P W 0 (fun _ => true) held 34 (.slice a len cap) d p) :
    ∃ l : List Int, l.length = len ∧ RdI W (.slice a len cap) l ∧ (∀ x ∈ l, -9223372036854775808 ≤ x ∧ x ≤ 9223372036854775807) ∧ ((d = .nil ∧ l = []) ∨ ∃ el sp, d = .slice el sp ∧ el.length = len ∧ el.length + sp.length = cap ∧ len ≤ cap) := by
  obtain ⟨fuel, hf⟩ := h
  rcases open_ints hu hi hc hf with ⟨hcs, hx⟩ | ⟨x, l, c, zs, hcs, _, hl, hm, hz, hx, hcell, hwz⟩
  · simp [Value.cells] at hcs
    obtain ⟨rfl, rfl, rfl⟩ := hcs
    simp only [Prod.mk.injEq] at hx
    exact ⟨[], rfl, RdI.nil W, by simp, .inl ⟨hx.1, rfl⟩⟩
  · simp [Value.cells] at hcs
    obtain ⟨rfl, rfl, rfl⟩ := hcs
    simp only [Prod.mk.injEq] at hx
    simp only [if_true] at hz
    have hb : ∀ n ∈ zs, -9223372036854775808 ≤ n ∧ n ≤ 9223372036854775807 := fun n hn => by
      have := bounds_i64 (hwz n hn)
      omega
    have hlen : (zs.take len).length = len := by simp; omega
    refine ⟨zs.take len, hlen, ?_, fun n hn => hb n (List.mem_of_mem_take hn), .inr ⟨_, _, hx.1, by simp [lits]; omega, by simp [lits]; omega, hl⟩⟩
    refine ⟨some x, cap, by rw [hlen], by omega, fun h0 => ?_⟩
    rw [hlen] at h0
    obtain ⟨b, off, rfl, hc'⟩ := ints_at hcell (by omega)
    refine ⟨b, off, rfl, World.block_lt_of_cell? W ⟨b, off + 0, none⟩ (hc' 0 (by omega)), fun j hj => ?_⟩
    rw [hlen] at hj
    have h1 := hc' j (by omega)
    rw [h1]
    simp [List.getElem?_eq_getElem (show j < zs.length by omega)]
end
end Go.Icz
end
section
namespace Go.Icz
open Go.RowKit Go.Lib Go.Sort Go.Proofs
theorem OwnI.block {w : World} {B : Nat} {v : Value} {l : List Int} (h : OwnI w B v l) (hv : v ≠ .slice none 0 0) :
    ∃ g cap cur, v = .slice (some ⟨g, 0, none⟩) l.length cap ∧ B ≤ g ∧ g < w.heap.size ∧ w.heap[g]? = some (.cells cur 3 (0, 0)) ∧ l.length ≤ cap ∧ cap ≤ maxLen ∧ cur.size = cap * 1 ∧ Holds (Value.int .i64) w g 0 l.toArray := by
  obtain ⟨g, cap, e1, e2, e3, e4, e5, e6, e7⟩ := holds_of_ownsRow (enc := Value.int .i64) h hv
  rcases h.2 with ⟨e0, _⟩ | ⟨g', cap', cur, e0, hb, hg, hn, hm, hs, ht⟩
  · exact absurd e0 hv
  · rw [e1] at e0
    injection e0 with q1 _ q3
    injection q1 with q1
    injection q1 with q1
    subst q1 q3
    exact ⟨g, cap, cur, e1, e2, e3, hg, e4, e5, hs, e7⟩
theorem below_grow {B : Nat} {w0 w : World} (h : Below B w0 w) (os : Array Obj) (hB : B ≤ w.heap.size) : Below B w0 (grow w os) :=
  ⟨h.os, h.tape, h.output, by show w0.heap.size ≤ (w.heap ++ os).size; rw [Array.size_append]; exact Nat.le_trans h.size (Nat.le_add_right _ _), fun k hk => by
    rw [← h.block k hk]
    exact heap_grow_old w os (by omega)⟩
theorem mergeSort_len (l : List Int) : (l.mergeSort fun x y => decide (x ≤ y)).length = l.length := List.length_mergeSort _
theorem sort_own {P : Program} {f : Nat} (hS : ∀ (blk off cap : Nat) (zs : List Int) (W : World), Holds (Value.int .i64) W blk off zs.toArray → blk < W.heap.size → zs.length < 4611686018427387904 →
      Calls P f #[.slice (some ⟨blk, off, none⟩) zs.length cap] W fun e w' => e = .returned (.tuple #[]) ∧ ∃ n os, w' = grow (putRow (Value.int .i64) (Sort.ahead W n) blk off (zs.mergeSort fun x y => decide (x ≤ y)).toArray) os)
    (hN : ∀ (p : Option Addr) (cap : Nat) (W : World), Calls P f #[.slice p 0 cap] W fun e w' => e = .returned (.tuple #[]) ∧ w' = W)
    {w : World} {B : Nat} {v : Value} {l : List Int} (h : OwnI w B v l) (hl : l.length < 4611686018427387904) :
    Calls P f #[v] w fun e w' => e = .returned (.tuple #[]) ∧ OwnI w' B v (l.mergeSort fun x y => decide (x ≤ y)) ∧ Below B w w' := by
  by_cases hv : v = .slice none 0 0
  · subst hv
    have h0 : l = [] := by
      rcases h.2 with ⟨_, hn⟩ | ⟨g', cap', cur, e0, _⟩
      · exact List.eq_nil_of_length_eq_zero hn
      · cases e0
    subst h0
    refine (hN none 0 w).mono ?_
    rintro e w' ⟨rfl, rfl⟩
    exact ⟨rfl, by simpa using h, Below.refl _ _⟩
  · obtain ⟨g, cap, cur, rfl, hB, hg, hh, h1, h2, h3, hH⟩ := h.block hv
    refine (hS g 0 cap l w hH hg hl).mono ?_
    rintro e w' ⟨rfl, n, os, rfl⟩
    have o := ownsRow_sorted_i (base := B) (g := g) (n := n) (os := os) (ts := l.mergeSort fun x y => decide (x ≤ y)) (mergeSort_len l) hB hh h1 h2 h3
    refine ⟨rfl, ?_, below_grow (below_putRow (Below.refl B w) hB) os (by simp [putRow, mapBlock, Sort.ahead]; omega)⟩
    unfold OwnI
    rw [mergeSort_len]
    exact o
theorem compact_len (l : List Int) : (Lib.compact l).length ≤ l.length := by
  unfold Lib.compact Lib.compactUpTo
  rw [List.length_map]
  refine Nat.le_trans (List.length_filter_le _ _) ?_
  simp
theorem compact_own {P : Program} {f : Nat} (hS : ∀ (blk off cap : Nat) (zs : List Int) (W : World), Holds (Value.int .i64) W blk off zs.toArray → zs.length ≤ 9223372036854775807 → zs.length ≤ cap →
      Calls P f #[.slice (some ⟨blk, off, none⟩) zs.length cap] W fun e w' => e = .returned (.slice (some ⟨blk, off, none⟩) (Lib.compact zs).length cap) ∧ ∃ q, w' = putRow (Value.int .i64) (Sort.ahead W q) blk off (Lib.compact zs ++ List.replicate (zs.length - (Lib.compact zs).length) 0).toArray)
    (hN : ∀ (p : Option Addr) (cap : Nat) (W : World), Calls P f #[.slice p 0 cap] W fun e w' => e = .returned (.slice p 0 cap) ∧ w' = W)
    {w : World} {B : Nat} {v : Value} {l : List Int} (h : OwnI w B v l) :
    Calls P f #[v] w fun e w' => ∃ v', e = .returned v' ∧ OwnI w' B v' (Lib.compact l) ∧ Below B w w' := by
  by_cases hv : v = .slice none 0 0
  · subst hv
    have h0 : l = [] := by
      rcases h.2 with ⟨_, hn⟩ | ⟨g', cap', cur, e0, _⟩
      · exact List.eq_nil_of_length_eq_zero hn
      · cases e0
    subst h0
    refine (hN none 0 w).mono ?_
    rintro e w' ⟨rfl, rfl⟩
    exact ⟨_, rfl, h, Below.refl _ _⟩
  · obtain ⟨g, cap, cur, rfl, hB, hg, hh, h1, h2, h3, hH⟩ := h.block hv
    have hc := compact_len l
    refine (hS g 0 cap l w hH (by unfold maxLen at h2; omega) h1).mono ?_
    rintro e w' ⟨rfl, q, rfl⟩
    have o := ownsRow_putRow (q := q) (k := (Lib.compact l).length) (ys := Lib.compact l ++ List.replicate (l.length - (Lib.compact l).length) 0) h (by rw [List.length_append, List.length_replicate]; omega) hc
    rw [List.take_left' rfl] at o
    exact ⟨_, rfl, o, below_putRow (Below.refl B w) hB⟩
theorem delete_own {P : Program} {f : Nat} {fv : Value} (p : Int → Bool) {w : World} {B : Nat} {v : Value} {l : List Int} (h : OwnI w B v l)
    (hS : ∀ (blk cap : Nat), v = .slice (some ⟨blk, 0, none⟩) l.length cap → Holds (Value.int .i64) w blk 0 l.toArray → B ≤ blk → blk < w.heap.size → l.length ≤ 9223372036854775807 → l.length ≤ cap →
      Calls P f #[.slice (some ⟨blk, 0, none⟩) l.length cap, fv] w fun e w' => e = .returned (.slice (some ⟨blk, 0, none⟩) (l.filter fun x => !p x).length cap) ∧ ∃ q, w' = putRow (Value.int .i64) (Sort.ahead w q) blk 0 ((l.filter fun x => !p x) ++ List.replicate (l.length - (l.filter fun x => !p x).length) 0).toArray)
    (hN : v = .slice none 0 0 → Calls P f #[.slice none 0 0, fv] w fun e w' => e = .returned (.slice none 0 0) ∧ Below w.heap.size w w') (hBw : B ≤ w.heap.size) :
    Calls P f #[v, fv] w fun e w' => ∃ v', e = .returned v' ∧ OwnI w' B v' (l.filter fun x => !p x) ∧ Below B w w' := by
  by_cases hv : v = .slice none 0 0
  · have h0 : l = [] := by
      subst hv
      rcases h.2 with ⟨_, hn⟩ | ⟨g', cap', cur, e0, _⟩
      · exact List.eq_nil_of_length_eq_zero hn
      · cases e0
    subst h0
    have h9 := hN hv
    subst hv
    refine h9.mono ?_
    rintro e w' ⟨rfl, b⟩
    exact ⟨_, rfl, h.below b, b.mono hBw⟩
  · obtain ⟨g, cap, cur, rfl, hB, hg, hh, h1, h2, h3, hH⟩ := h.block hv
    have hc : (l.filter fun x => !p x).length ≤ l.length := List.length_filter_le _ _
    refine (hS g cap rfl hH hB hg (by unfold maxLen at h2; omega) h1).mono ?_
    rintro e w' ⟨rfl, q, rfl⟩
    have o := ownsRow_putRow (q := q) (k := (l.filter fun x => !p x).length) (ys := (l.filter fun x => !p x) ++ List.replicate (l.length - (l.filter fun x => !p x).length) 0) h (by rw [List.length_append, List.length_replicate]; omega) hc
    rw [List.take_left' rfl] at o
    exact ⟨_, rfl, o, below_putRow (Below.refl B w) hB⟩
/-- Sorted, each once: what rises. -/
theorem sorted_rises (l : List Int) : Rises (Lib.compact (l.mergeSort fun x y => decide (x ≤ y))) (fun x => x ∈ l) := by
  have hs : (l.mergeSort fun x y => decide (x ≤ y)).Pairwise (· ≤ ·) := by
    have := List.pairwise_mergeSort (le := fun x y : Int => decide (x ≤ y)) (fun a b c h1 h2 => by simp at *; omega) (fun a b => by simp; omega) l
    exact this.imp fun h => by simpa using h
  exact (compact_rises _ hs).congr fun x => List.mem_mergeSort
end Go.Icz
end
section
namespace Go.Icz
open Go.RowKit Go.Lib Go.Sort Go.Proofs
theorem grow_own {P : Program} {f : Nat} (S : StdI P)
    (hR : ∀ (w : World), Calls P f #[.slice none 0 0, .int .i64 ((0 : Nat) : Int)] w fun e w' => e = .returned (.slice none 0 0) ∧ w' = w)
    (hG : ∀ (i0 : TypeInfo) (z : Value), P.info? 3 = some i0 → i0.zero = some z → 0 < i0.size → ∀ (n : Nat) (w : World), 0 < n → n * i0.bytes ≤ 140737488355328 → n ≤ 4611686018427387904 →
      Calls P f #[.slice none 0 0, .int .i64 n] w fun e w' => e = .returned (.slice (some ⟨w.heap.size, 0, none⟩) 0 (grownCap w n 0 3)) ∧
        w' = w.drew.alloc (.cells (#[] ++ Builtin.zeroCells z.cells n ++ Builtin.zeroCells z.cells (grownCap w n 0 3 - n)) 3))
    (n : Nat) (hn : n ≤ 17592186044416) (w : World) :
    Calls P f #[.slice none 0 0, .int .i64 n] w fun e w' => ∃ v, e = .returned v ∧ OwnI w' w.heap.size v [] ∧ Below w.heap.size w w' := by
  obtain ⟨i0, hi, hz0, hz1, hz2⟩ := info_parts S.i
  rcases Nat.eq_zero_or_pos n with rfl | h0
  · refine (hR w).mono ?_
    rintro e w' ⟨rfl, rfl⟩
    exact ⟨_, rfl, OwnI.nil _ _, Below.refl _ _⟩
  · refine (hG i0 _ hi hz0 (by omega) n w h0 (by rw [hz2]; omega) (by omega)).mono ?_
    rintro e w' ⟨rfl, rfl⟩
    have h1 := grownCap_ge w n 0 3
    have h2 := grownCap_le_maxLen w n 0 3 (by unfold maxLen; omega)
    refine ⟨_, rfl, ?_, ((Below.refl _ w).drew).alloc (Nat.le_refl _) _⟩
    refine World.ownsRow_made w.drew _ _ (Nat.le_refl _) h2 ?_
    have hs : ∀ k, (Builtin.zeroCells (Value.int .i64 0).cells k).size = k := fun k => by simp [Builtin.zeroCells, Value.cells]
    rw [Array.size_append, Array.size_append, hs, hs]
    simp
    omega
end Go.Icz
end
