/-
  Rows of elements of any kind in memory: a slice that a call owns, a slice that reads as a list, and append. Conditions: those that each theorem names.
-/
import Derived.Test.YtaoeabnpmpimgaaDoorTx0
namespace Go.Icz
open Go.RowKit
/-- A kind of element: its type, how many cells it takes, and which. -/
structure Kd (α : Type) where
  e : TypeId
  z : Nat
  enc : α → List Value
  len : ∀ x, (enc x).length = z
  pos : 0 < z
  one : ∀ x, ∀ u ∈ enc x, u.oneCell' = true
namespace Kd
variable {α : Type} (K : Kd α)
def cells (l : List α) : List Value := l.flatMap K.enc
theorem cells_len (l : List α) : (K.cells l).length = l.length * K.z := by
  unfold cells
  induction l with
  | nil => simp
  | cons x t ih => rw [List.flatMap_cons, List.length_append, ih, K.len, List.length_cons, Nat.add_mul, Nat.one_mul, Nat.add_comm]
theorem cells_app (l m : List α) : K.cells (l ++ m) = K.cells l ++ K.cells m := by simp [cells]
theorem cells_one (l : List α) : ∀ u ∈ K.cells l, u.oneCell' = true := by
  intro u hu
  unfold cells at hu
  obtain ⟨x, _, hx⟩ := List.mem_flatMap.1 hu
  exact K.one x u hx
theorem cells_get : ∀ (l : List α) (j : Nat) (hj : j < l.length) (i : Nat), i < K.z → (K.cells l)[j * K.z + i]? = (K.enc l[j])[i]?
  | [], j, hj, _, _ => by simp at hj
  | x :: t, 0, _, i, hi => by
    unfold cells
    rw [List.flatMap_cons, Nat.zero_mul, Nat.zero_add, List.getElem?_append_left (by rw [K.len]; exact hi)]
    rfl
  | x :: t, j + 1, hj, i, hi => by
    have ih := cells_get t j (by simpa using hj) i hi
    unfold cells at ih ⊢
    rw [List.flatMap_cons, List.getElem?_append_right (by rw [K.len, Nat.add_mul]; omega), K.len, show (j + 1) * K.z + i - K.z = j * K.z + i by rw [Nat.add_mul]; omega, ih]
    rfl
def Own (w : World) (B : Nat) (v : Value) (l : List α) : Prop := w.ownsRow B K.e K.z v l.length (K.cells l)
def Rd (w : World) (v : Value) (l : List α) : Prop :=
  ∃ A c, v = .slice A l.length c ∧ l.length ≤ c ∧ (0 < l.length → ∃ b off, A = some ⟨b, off, none⟩ ∧ b < w.heap.size ∧ ∀ j u, (K.cells l)[j]? = some u → w.cell? ⟨b, off + j, none⟩ = some u)
variable {K}
theorem Own.nil (w : World) (B : Nat) : K.Own w B (.slice none 0 0) [] := World.ownsRow_nil w B K.e K.z
theorem Own.alloc {w : World} {B : Nat} {v : Value} {l : List α} (h : K.Own w B v l) (o : Obj) : K.Own (w.alloc o) B v l := World.ownsRow.alloc h o
theorem Own.below {w w' : World} {B : Nat} {v : Value} {l : List α} (h : K.Own w B v l) (hb : Below w.heap.size w w') : K.Own w' B v l := by
  refine World.ownsRow.kept (row := none) h ⟨hb.os, hb.tape, hb.output, hb.size, fun k hk _ => hb.block k hk⟩ ?_
  cases hv : v.ownBlock <;> simp
theorem Own.mono {w : World} {B B' : Nat} {v : Value} {l : List α} (h : K.Own w B v l) (hB : B' ≤ B) : K.Own w B' v l := by
  refine ⟨h.1, ?_⟩
  rcases h.2 with h | ⟨g, cap, cur, hv, hg, r⟩
  · exact .inl h
  · exact .inr ⟨g, cap, cur, hv, Nat.le_trans hB hg, r⟩
theorem Own.far {w w' : World} {B b : Nat} {v : Value} {l : List α} (h : K.Own w B v l) (hg : w.grownBy w' (some b)) (hne : ∀ k, v.ownBlock = some k → k ≠ b) : K.Own w' B v l := by
  refine World.ownsRow.kept h hg ?_
  cases hv : v.ownBlock with
  | none => exact .inl rfl
  | some k => exact .inr (fun e => hne k hv (by injection e))
theorem Own.lt {w : World} {B : Nat} {v : Value} {l : List α} (h : K.Own w B v l) : ∀ k, v.ownBlock = some k → B ≤ k ∧ k < w.heap.size := fun k hk => World.ownsRow.lt h k hk
theorem Rd.nil (w : World) : K.Rd w (.slice none 0 0) [] := ⟨none, 0, rfl, by simp, fun h => absurd h (by simp)⟩
theorem Rd.below {w w' : World} {v : Value} {l : List α} (h : K.Rd w v l) (hb : Below w.heap.size w w') : K.Rd w' v l := by
  obtain ⟨A, c, hv, hc, hr⟩ := h
  refine ⟨A, c, hv, hc, fun h0 => ?_⟩
  obtain ⟨b, off, hA, hlt, hcell⟩ := hr h0
  exact ⟨b, off, hA, Nat.lt_of_lt_of_le hlt hb.size, fun j u hj => (hb.cell (p := ⟨b, off + j, none⟩) hlt).trans (hcell j u hj)⟩
theorem Rd.alloc {w : World} {v : Value} {l : List α} (h : K.Rd w v l) (o : Obj) : K.Rd (w.alloc o) v l := h.below ((Below.refl _ _).alloc (Nat.le_refl _) _)
theorem Own.rd {w : World} {B : Nat} {v : Value} {l : List α} (h : K.Own w B v l) : K.Rd w v l := by
  rcases h.2 with ⟨hv, hn⟩ | ⟨g, cap, cur, hv, hg, hh, hnc, r⟩
  · exact ⟨none, 0, by rw [hv, hn], by omega, fun h0 => absurd hn (by omega)⟩
  · refine ⟨_, cap, hv, hnc, fun _ => ⟨g, 0, rfl, (Array.getElem?_eq_some_iff.1 hh).1, fun j u hj => ?_⟩⟩
    rw [← add_flat]
    exact World.ownsRow.cells h (g := g) (by rw [hv]; rfl) j u hj
theorem Own.lit (w : World) {B : Nat} (l : List α) (hl : l.length ≤ maxLen) (hB : B ≤ w.heap.size) : K.Own (w.alloc (.cells (K.cells l).toArray K.e)) B (.slice (some ⟨w.heap.size, 0, none⟩) l.length l.length) l := by
  have := World.ownsRow_lit (base := B) (e := K.e) (size := K.z) w (K.cells l).toArray l.length hB hl (by simp [cells_len])
  unfold Own
  simpa using this
theorem Rd.form {w : World} {v : Value} {l : List α} (h : K.Rd w v l) : ∃ A c, v = .slice A l.length c ∧ l.length ≤ c := by
  obtain ⟨A, c, hv, hc, _⟩ := h
  exact ⟨A, c, hv, hc⟩
/-- The i-th cell of the j-th element. -/
theorem Rd.at {w : World} {A : Option Addr} {n c : Nat} {l : List α} (h : K.Rd w (.slice A n c) l) {j : Nat} (hj : j < l.length) :
    ∃ b off, A = some ⟨b, off, none⟩ ∧ b < w.heap.size ∧ ∀ i u, i < K.z → (K.enc l[j])[i]? = some u → w.cell? ⟨b, off + (j * K.z + i), none⟩ = some u := by
  obtain ⟨A', c', hv, hc, hr⟩ := h
  injection hv with e1 e2 e3
  subst e1 e2 e3
  obtain ⟨b, off, hA, hlt, hcell⟩ := hr (by omega)
  exact ⟨b, off, hA, hlt, fun i u hi hu => hcell _ u (by rw [cells_get K l j hj i hi]; exact hu)⟩
theorem Rd.part {w : World} {A : Option Addr} {n c : Nat} {l : List α} (h : K.Rd w (.slice A n c) l) (lo hi : Nat) (h1 : lo ≤ hi) (h2 : hi ≤ l.length) : K.Rd w (sliced A lo hi c K.z) ((l.drop lo).take (hi - lo)) := by
  obtain ⟨A', c', hv, hc, hr⟩ := h
  injection hv with e1 e2 e3
  subst e1 e2 e3
  unfold sliced
  have hl : ((l.drop lo).take (hi - lo)).length = hi - lo := by rw [List.length_take, List.length_drop]; omega
  refine ⟨_, c - lo, by rw [hl], by rw [hl]; omega, fun h0 => ?_⟩
  rw [hl] at h0
  obtain ⟨b0, off, rfl, hlt, hcell⟩ := hr (by omega)
  refine ⟨b0, off + lo * K.z, by rw [if_neg (by omega)]; simp [add_flat], hlt, fun j u hu => ?_⟩
  have hjl : j < (hi - lo) * K.z := by
    have := (List.getElem?_eq_some_iff.1 hu).1
    rwa [cells_len, hl] at this
  have e : l = l.take lo ++ ((l.drop lo).take (hi - lo) ++ (l.drop lo).drop (hi - lo)) := by rw [List.take_append_drop, List.take_append_drop]
  rw [Nat.add_assoc]
  refine hcell _ u ?_
  have hmin : min lo l.length = lo := by omega
  have hlen : (K.cells (l.take lo)).length = lo * K.z := by rw [cells_len, List.length_take, hmin]
  rw [e, cells_app, cells_app, List.getElem?_append_right (by rw [hlen]; omega), hlen, show lo * K.z + j - lo * K.z = j by omega, List.getElem?_append_left (by rw [cells_len, hl]; exact hjl)]
  exact hu
/-- 'append(v, x...)', x elements that can be read. -/
theorem wp_app {P : Program} {ops : Array Oper} {rest : List Oper} {o : Oper} {a : Act} {Q : Exit → Act → World → Prop} {w : World} (hgd : o.guard = none) (s x : Operand) (t : TypeId)
    (ho : o.op = .call { callee := .builtin .append, args := #[s, x], argTypes := #[t, t] }) (ht : P.underlying t = some (.slice K.e)) {zv : Value} {by' : Nat} (info : (P.info? K.e).map (fun i => (i.zero, i.size, i.bytes)) = some (some zv, K.z, by')) (hzs : zv.cells.size = K.z)
    (B : Nat) (v u : Value) (l m : List α) (hs : a.eval s = v) (hown : K.Own w B v l) (hx : a.eval x = u) (hr : K.Rd w u m)
    (hmax : l.length + m.length ≤ maxLen) (hlen : (l.length + m.length) * by' ≤ 140737488355328) (hB : B ≤ w.heap.size)
    (h : ∀ v' w', K.Own w' B v' (l ++ m) → Below B w w' → w.grownBy w' v.ownBlock → (m ≠ [] → v' ≠ .slice none 0 0) → wpList P ops Q rest (a.put o.dst v') w') :
    wpList P ops Q (o :: rest) a w := by
  obtain ⟨i0, hi, hz0, hz1, hz2⟩ := info_parts info
  obtain ⟨A, c, rfl, hc, hcell⟩ := hr
  rcases A with _ | ad
  · have hm : m = [] := by
      rcases Nat.eq_zero_or_pos m.length with h0 | h0
      · exact List.eq_nil_of_length_eq_zero h0
      · obtain ⟨b, off, e, _⟩ := hcell h0
        cases e
    subst hm
    refine wpList_plain hgd fun Kx hK => ?_
    unfold Oper.wp execOp
    have hrun : (Builtin.append_ #[t, t] o.type #[v, .slice none 0 c]).run P w = .ok v w := by
      rcases hown.2 with ⟨rfl, _⟩ | ⟨g, cap, cur, rfl, _, _, hnc, _⟩
      · simp [Builtin.append_, run_underlying ht, Go.sizeOf, typeInfo, hi, Builtin.lenOf, Builtin.firstCells]
      · simp [Builtin.append_, run_underlying ht, Go.sizeOf, typeInfo, hi, Builtin.lenOf, Builtin.firstCells, hnc, storeCells]
    simp only [ho, resolve, invoke, builtin, Sem.run_bind, Sem.run_pure, Result.andThen_ok, List.map_toArray, List.map_cons, List.map_nil, hs, hx, List.length_nil, hrun]
    exact hK _ _ (h v w (by simpa using hown) (Below.refl _ _) (World.grownBy.refl _ _) (fun h => absurd rfl h))
  · refine wpList_append_own _ hgd s x t ho B K.e i0 zv K.z by' ht hi hz0 hz1 hz2 hzs K.pos v l.length (K.cells l) hs hown ad m.length c (K.cells m) hx (K.cells_len m) ?_ (K.cells_one m) hmax hlen hB ?_
    · intro j u hu
      have hj : j < m.length * K.z := by rw [← K.cells_len]; exact (List.getElem?_eq_some_iff.1 hu).1
      have hm0 : 0 < m.length := by
        rcases Nat.eq_zero_or_pos m.length with h0 | h0
        · rw [h0, Nat.zero_mul] at hj; omega
        · exact h0
      obtain ⟨b, off, e, _, hcc⟩ := hcell hm0
      injection e with e
      subst e
      rw [add_flat]
      exact hcc j u hu
    · intro v' w' h1 h2 h3
      refine h v' w' (by unfold Own; rw [cells_app, List.length_append]; exact h1) ((Below.refl B w).grown h2 hB (fun k hk => (World.ownsRow.lt hown k hk).1)) h2 (fun hm e => hm (List.eq_nil_of_length_eq_zero (h3.1 e).2))
/-- 'append(v, x)', one element x: the new row. -/
theorem wp_app1 {P : Program} {ops : Array Oper} {rest : List Oper} {o : Oper} {a : Act} {Q : Exit → Act → World → Prop} {w : World} (hgd : o.guard = none) (s x : Operand) (t : TypeId)
    (ho : o.op = .call { callee := .builtin .append, args := #[s, x], argTypes := #[t, t] }) (ht : P.underlying t = some (.slice K.e)) {zv : Value} {by' : Nat} (info : (P.info? K.e).map (fun i => (i.zero, i.size, i.bytes)) = some (some zv, K.z, by')) (hzs : zv.cells.size = K.z)
    (B : Nat) (v : Value) (l : List α) (b : α) (hs : a.eval s = v) (hown : K.Own w B v l) {n : Nat} (hn : w.heap.size = n) (hx : a.eval x = .slice (some ⟨n, 0, none⟩) 1 1) {cs : Array Value} (hcs : cs = (K.enc b).toArray)
    (hmax : l.length + 1 ≤ maxLen) (hlen : (l.length + 1) * by' ≤ 140737488355328) (hB : B ≤ w.heap.size)
    (h : ∀ v' w', K.Own w' B v' (l ++ [b]) → Below B w w' → (w.alloc (.cells cs K.e)).grownBy w' v.ownBlock → v' ≠ .slice none 0 0 → wpList P ops Q rest (a.put o.dst v') w') :
    wpList P ops Q (o :: rest) a (w.alloc (.cells cs K.e)) := by
  subst hn hcs
  have e : K.cells [b] = K.enc b := by simp [cells]
  have r := (Own.lit (K := K) (B := w.heap.size) w [b] (by show 1 ≤ maxLen; decide) (Nat.le_refl _)).rd
  rw [e] at r
  refine wp_app hgd s x t ho ht info hzs B v _ l [b] hs (hown.alloc _) hx r (by simpa using hmax) (by simpa using hlen) (by simp; omega) ?_
  intro v' w' h1 h2 h3 h4
  exact h v' w' h1 (((Below.refl B w).alloc hB _).trans h2) h3 (h4 (by simp))
end Kd
namespace Kd
variable {α : Type} {K : Kd α}
theorem Own.touch {S : Nat → Prop} {w w' : World} {B : Nat} {v : Value} {l : List α} (h : K.Own w B v l) (k : Tch S w w') (hS : ∀ j, S j → v.ownBlock ≠ some j) : K.Own w' B v l := by
  have hlt := fun j hj => (h.lt j hj).2
  refine ⟨h.1, ?_⟩
  rcases h.2 with h | ⟨g, cap, cur, hv, hg, hb, r⟩
  · exact .inl h
  · have hob : v.ownBlock = some g := by rw [hv]; rfl
    exact .inr ⟨g, cap, cur, hv, hg, (k.block g (hlt g hob) (fun hs => hS g hs hob)).trans hb, r⟩
/-- 'append(v, x)' at a step of a region that draws its order, x laid in a block of its own. -/
theorem step_app1 {P : Program} {ops : Array Oper} {o : Oper} {a : Act} {Kn : Act → World → Prop} {Q : Exit → Act → World → Prop} {E : Prop} {w : World} (hgd : o.guard = none) (s x : Operand) (t : TypeId)
    (ho : o.op = .call { callee := .builtin .append, args := #[s, x], argTypes := #[t, t] }) (ht : P.underlying t = some (.slice K.e)) {zv : Value} {by' : Nat} (info : (P.info? K.e).map (fun i => (i.zero, i.size, i.bytes)) = some (some zv, K.z, by')) (hzs : zv.cells.size = K.z)
    (B : Nat) (v : Value) (l : List α) (b : α) (hs : a.eval s = v) (hown : K.Own w B v l) (n : Nat) (hblk : w.heap[n]? = some (.cells (K.enc b).toArray K.e (0, 0))) (hx : a.eval x = .slice (some ⟨n, 0, none⟩) 1 1)
    (hmax : l.length + 1 ≤ maxLen) (hlen : (l.length + 1) * by' ≤ 140737488355328) (hB : B ≤ w.heap.size)
    (h : ∀ v' w', K.Own w' B v' (l ++ [b]) → Below B w w' → w.grownBy w' v.ownBlock → Kn (a.put o.dst v') w') :
    if Region.wanted o (yielded ops a.tmps) = true then Oper.wp P o a w Kn Q else E := by
  obtain ⟨i0, hi, hz0, hz1, hz2⟩ := info_parts info
  refine step_append_lies w hgd s x t ho B K.e i0 zv K.z by' ht hi hz0 hz1 hz2 hzs K.pos v l.length (K.cells l) hs hown ⟨n, 0, none⟩ 1 1 (K.enc b) hx ?_ ?_ ?_ (by omega) hmax hlen hB _ rfl ?_
  · rw [K.len, Nat.one_mul]
  · exact World.news_of_block hblk
  · exact fun u hu => K.one b u hu
  · intro g cap w' h1 h2 h3 h4
    refine h _ w' ?_ ((Below.refl B w).grown h2 hB (fun k hk => (World.ownsRow.lt hown k hk).1)) h2
    unfold Own
    rw [cells_app, List.length_append]
    have e : K.cells [b] = K.enc b := by simp [cells]
    rw [e]
    exact h1
end Kd
theorem Kd.run_app {α : Type} {K : Kd α} {P : Program} {w : World} (t ty : TypeId) (ht : P.underlying t = some (.slice K.e)) {zv : Value} {by' : Nat} (info : (P.info? K.e).map (fun i => (i.zero, i.size, i.bytes)) = some (some zv, K.z, by')) (hzs : zv.cells.size = K.z)
    (B : Nat) (v u : Value) (l m : List α) (hown : K.Own w B v l) (hr : K.Rd w u m) (hmax : l.length + m.length ≤ maxLen) (hlen : (l.length + m.length) * by' ≤ 140737488355328) (hB : B ≤ w.heap.size) :
    ∃ v' w', (Builtin.append_ #[t, t] ty #[v, u]).run P w = .ok v' w' ∧ K.Own w' B v' (l ++ m) ∧ w.grownBy w' v.ownBlock := by
  obtain ⟨i, hi, hz, hsize, hby⟩ := info_parts info
  obtain ⟨A, c, rfl, hc, hcell⟩ := hr
  rcases A with _ | ad
  · have hm : m = [] := by
      rcases Nat.eq_zero_or_pos m.length with h0 | h0
      · exact List.eq_nil_of_length_eq_zero h0
      · obtain ⟨b, off, e, _⟩ := hcell h0
        cases e
    subst hm
    refine ⟨v, w, ?_, by simpa using hown, ⟨rfl, rfl, rfl, Nat.le_refl _, fun _ _ _ => rfl⟩⟩
    rcases hown.2 with ⟨rfl, h0⟩ | ⟨g, cap, cur, rfl, _, _, hnc, _⟩
    · simp [Builtin.append_, run_underlying ht, sizeOf, typeInfo, hi, Builtin.lenOf, Builtin.firstCells]
    · simp [Builtin.append_, run_underlying ht, sizeOf, typeInfo, hi, Builtin.lenOf, Builtin.firstCells, hnc, storeCells]
  · have hnews : ∀ j u, (K.cells m)[j]? = some u → w.cell? (ad.add j) = some u := by
      intro j u hu
      have hj : 0 < m.length := by
        rcases Nat.eq_zero_or_pos m.length with h0 | h0
        · have : m = [] := List.eq_nil_of_length_eq_zero h0
          subst this
          cases hu
        · exact h0
      obtain ⟨b, off, e, _, hc'⟩ := hcell hj
      injection e with e
      subst e
      rw [add_flat]
      exact hc' j u hu
    obtain ⟨v', w', hrun, h1, h2, _⟩ := run_append_own (P := P) w B t ty K.e i zv K.z by' ht hi hz hsize hby hzs K.pos v l.length (K.cells l) hown ad m.length c (K.cells m) (K.cells_len m) hnews (K.cells_one m) hmax hlen hB
    exact ⟨v', w', hrun, by unfold Kd.Own; rw [K.cells_app, List.length_append]; exact h1, h2⟩
theorem wp_run_app {P : Program} {w : World} {o : Oper} {a : Act} {K : Act → World → Prop} {Q : Exit → Act → World → Prop} (s x : Operand) (t : TypeId)
    (ho : o.op = .call { callee := .builtin .append, args := #[s, x], argTypes := #[t, t] }) (v u v' : Value) (w' : World) (hs : a.eval s = v) (hx : a.eval x = u)
    (hr : (Builtin.append_ #[t, t] o.type #[v, u]).run P w = .ok v' w') (h : K (a.put o.dst v') w') : o.wp P a w K Q := by
  unfold Oper.wp execOp
  simp only [ho, resolve, invoke, builtin, Sem.run_bind, Sem.run_pure, Result.andThen_ok, List.map_toArray, List.map_cons, List.map_nil, hs, hx, hr]
  exact h
theorem step_run_app {P : Program} {ops : Array Oper} {w : World} {o : Oper} {a : Act} {K : Act → World → Prop} {Q : Exit → Act → World → Prop} {E : Prop} (hgd : o.guard = none) (s x : Operand) (t : TypeId)
    (ho : o.op = .call { callee := .builtin .append, args := #[s, x], argTypes := #[t, t] }) (v u v' : Value) (w' : World) (hs : a.eval s = v) (hx : a.eval x = u)
    (hr : (Builtin.append_ #[t, t] o.type #[v, u]).run P w = .ok v' w') (h : K (a.put o.dst v') w') : if Region.wanted o (yielded ops a.tmps) = true then Oper.wp P o a w K Q else E := by
  have hw : Region.wanted o (yielded ops a.tmps) = true := by simp [Region.wanted, hgd]
  rw [if_pos hw]
  exact wp_run_app s x t ho v u v' w' hs hx hr h
theorem Kd.Rd.front {α : Type} {K : Kd α} {w : World} {A : Option Addr} {n c : Nat} {xs ys : List α} (h : K.Rd w (.slice A n c) (xs ++ ys)) : K.Rd w (.slice A xs.length c) xs := by
  obtain ⟨A', c', hv, hc, hr⟩ := h
  injection hv with e1 e2 e3
  subst e1 e2 e3
  rw [List.length_append] at hc hr
  refine ⟨A, c, rfl, by omega, fun h0 => ?_⟩
  obtain ⟨b, off, hA, hlt, hcell⟩ := hr (by omega)
  refine ⟨b, off, hA, hlt, fun j u hu => hcell j u ?_⟩
  rw [K.cells_app, List.getElem?_append_left]
  · exact hu
  · exact (List.getElem?_eq_some_iff.1 hu).1
end Go.Icz
