/-
  Four rows that grow, in a row of their own; what they hold of an ordered list. Conditions: those that each theorem names.
-/
import Derived.Test.YtcffagfkpkfgbaaMbo
import Derived.Test.YtcffagfkpkfgbaaMpx
import Derived.Test.YtcffagfkpkfgbaaMpo
import Derived.Test.YtcffagfkpkfgbaaOrl
namespace Go.Icz
open Go.RowKit
abbrev SR.v (r : SR) : Value := .slice r.A r.l.length r.c
def noR : SR := ⟨none, 0, []⟩
/-- Rows in block g, each in a block of its own, no two in the same. -/
structure Dl (w : World) (B0 B g : Nat) (R : List SR) : Prop where
  len : R.length = 4
  row : KSl.Own w B0 (.slice (some ⟨g, 0, none⟩) 4 4) R
  own : ∀ i (hi : i < R.length), KEnt.Own w B R[i].v R[i].l
  ne : g < B
  ap : ∀ i j (hi : i < R.length) (hj : j < R.length), i ≠ j → ∀ k, R[i].v.ownBlock = some k → R[j].v.ownBlock ≠ some k
theorem Dl.lt {w : World} {B0 B g : Nat} {R : List SR} (h : Dl w B0 B g R) : B0 ≤ g ∧ g < w.heap.size := h.row.lt g rfl
theorem Dl.below {w w' : World} {B0 B B' g : Nat} {R : List SR} (h : Dl w B0 B g R) (hb : Below w.heap.size w w') (hR : ∀ i (hi : i < R.length), R[i] = noR) (hg : g < B') : Dl w' B0 B' g R :=
  ⟨h.len, h.row.below hb, fun i hi => by rw [hR i hi]; exact Kd.Own.nil _ _, hg, h.ap⟩
theorem Dl.made (w : World) {B0 : Nat} (hB : B0 ≤ w.heap.size) : Dl (w.alloc (.cells #[.slice none 0 0, .slice none 0 0, .slice none 0 0, .slice none 0 0] 22)) B0 (w.heap.size + 1) w.heap.size [noR, noR, noR, noR] :=
  ⟨rfl, Kd.Own.lit (K := KSl) w [noR, noR, noR, noR] (by simp [maxLen]) hB, fun i hi => by
    match i, hi with
    | 0, _ => exact Kd.Own.nil _ _
    | 1, _ => exact Kd.Own.nil _ _
    | 2, _ => exact Kd.Own.nil _ _
    | 3, _ => exact Kd.Own.nil _ _, Nat.lt_succ_self _, fun i j hi hj hij k hk => by
    match i, hi with
    | 0, _ => cases hk
    | 1, _ => cases hk
    | 2, _ => cases hk
    | 3, _ => cases hk⟩
/-- One entry more in row a. -/
theorem Dl.step {w w5 : World} {B0 B g a : Nat} {R : List SR} (h : Dl w B0 B g R) (ha : a < R.length) (x : EV) {o : Obj} {g5 cap5 : Nat}
    (ho : KEnt.Own w5 B (.slice (some ⟨g5, 0, none⟩) (R[a].l ++ [x]).length cap5) (R[a].l ++ [x]))
    (hg : (w.alloc o).grownBy w5 R[a].v.ownBlock) (hb : R[a].v.ownBlock = some g5 ∨ g5 = (w.alloc o).heap.size) :
    Dl (w5.setCell ⟨g, a, none⟩ (.slice (some ⟨g5, 0, none⟩) (R[a].l ++ [x]).length cap5)) B0 B g (R.set a ⟨some ⟨g5, 0, none⟩, cap5, R[a].l ++ [x]⟩) ∧ Tch (fun k => k = g ∨ B ≤ k) w (w5.setCell ⟨g, a, none⟩ (.slice (some ⟨g5, 0, none⟩) (R[a].l ++ [x]).length cap5)) := by
  have T : Tch (fun k => R[a].v.ownBlock = some k) w w5 := (Tch.alloc _ w o).trans (Tch.grown hg (fun k hk => hk))
  have T6 : Tch (fun k => k = g) w5 (w5.setCell ⟨g, a, none⟩ (.slice (some ⟨g5, 0, none⟩) (R[a].l ++ [x]).length cap5)) := Tch.set _ _ _ _ rfl
  have hl := h.lt
  have hlo : ∀ i (hi : i < R.length) k, R[i].v.ownBlock = some k → B ≤ k ∧ k < w.heap.size := fun i hi k hk => (h.own i hi).lt k hk
  have hza : (w.alloc o).heap.size = w.heap.size + 1 := World.size_alloc _ _
  have n5 : ∀ i (hi : i < R.length), i ≠ a → R[i].v.ownBlock ≠ some g5 := fun i hi hia e => by
    rcases hb with hb | hb
    · exact h.ap a i ha hi (fun e => hia e.symm) g5 hb e
    · have := (hlo i hi g5 e).2; omega
  have hg5 : g5 ≠ g := fun e => by
    rcases hb with hb | hb
    · have := (hlo a ha g5 hb).1; have := h.ne; omega
    · omega
  have hB5 : B ≤ g5 := (ho.lt g5 rfl).1
  refine ⟨⟨by rw [List.length_set]; exact h.len, ?_, ?_, h.ne, ?_⟩, (T.mono (fun k hk => .inr (hlo a ha k hk).1)).trans (T6.mono (fun k hk => .inl hk))⟩
  · have h1 := h.row.touch T (fun j hj e => by
      injection e with e
      have := (hlo a ha j hj).1
      have := h.ne
      have e : g = j := e
      omega)
    exact ownS_put h1 a ha ⟨some ⟨g5, 0, none⟩, cap5, R[a].l ++ [x]⟩
  · intro i hi
    rw [List.length_set] at hi
    by_cases e : i = a
    · subst e
      rw [List.getElem_set_self]
      exact ho.touch T6 (fun j hj e => by subst hj; injection e with e; exact hg5 e)
    · rw [List.getElem_set_ne (fun c => e c.symm)]
      refine ((h.own i hi).touch T (fun j hj => h.ap a i ha hi (fun c => e c.symm) j hj)).touch T6 (fun j hj e2 => ?_)
      subst hj
      have := (hlo i hi _ e2).1
      have := h.ne
      omega
  · intro i j hi hj hij k hk
    rw [List.length_set] at hi hj
    by_cases ei : i = a
    · subst ei
      rw [List.getElem_set_self] at hk
      rw [List.getElem_set_ne hij]
      injection hk with hk
      have hk : g5 = k := hk
      subst hk
      exact n5 j (by simpa using hj) (fun c => hij c.symm)
    · rw [List.getElem_set_ne (fun c => ei c.symm)] at hk
      by_cases ej : j = a
      · subst ej
        rw [List.getElem_set_self]
        intro e2
        injection e2 with e2
        have e2 : g5 = k := e2
        subst e2
        exact n5 i (by simpa using hi) ei hk
      · rw [List.getElem_set_ne (fun c => ej c.symm)]
        exact h.ap i j hi hj hij k hk
theorem Dl.step2 {w w5 : World} {B0 B g a : Nat} {R : List SR} (h : Dl w B0 B g R) (ha : a < R.length) (x : EV) {o : Obj} {g5 cap5 : Nat} {r : SR} (hr : r = R[a])
    (ho : KEnt.Own w5 B (.slice (some ⟨g5, 0, none⟩) (r.l ++ [x]).length cap5) (r.l ++ [x])) (hg : (w.alloc o).grownBy w5 r.v.ownBlock) (hb : r.v.ownBlock = some g5 ∨ g5 = (w.alloc o).heap.size) :
    Dl (w5.setCell ⟨g, a, none⟩ (.slice (some ⟨g5, 0, none⟩) (r.l ++ [x]).length cap5)) B0 B g (R.set a ⟨some ⟨g5, 0, none⟩, cap5, r.l ++ [x]⟩) ∧ Tch (fun k => k = g ∨ B ≤ k) w (w5.setCell ⟨g, a, none⟩ (.slice (some ⟨g5, 0, none⟩) (r.l ++ [x]).length cap5)) := by
  subst hr
  exact h.step ha x ho hg hb
theorem Dl.drew {w : World} {B0 B g : Nat} {R : List SR} (h : Dl w B0 B g R) : Dl w.drew B0 B g R :=
  ⟨h.len, h.row.touch (Tch.drew (fun _ => False) w) (fun _ e => e.elim), fun i hi => (h.own i hi).touch (Tch.drew (fun _ => False) w) (fun _ e => e.elim), h.ne, h.ap⟩
theorem cellD {w : World} {B0 B g a : Nat} {R : List SR} (h : Dl w B0 B g R) (ha : a < R.length) : w.cell? ⟨g, a, none⟩ = some (.slice R[a].A R[a].l.length R[a].c) := by
  obtain ⟨b, off, hA, hb, hc⟩ := h.row.rd.at ha
  injection hA with hA
  injection hA with e1 e2
  subst e1 e2
  have h2 : w.cell? ⟨g, 0 + (a * 1 + 0), none⟩ = some (.slice R[a].A R[a].l.length R[a].c) := hc 0 _ (by decide) rfl
  rwa [Nat.mul_one, Nat.add_zero, Nat.zero_add] at h2
theorem frozD {w : World} {B0 B g : Nat} {R : List SR} (h : Dl w B0 B g R) (a : Nat) : w.frozen? ⟨g, a, none⟩ = false := by
  rcases h.row.2 with ⟨e, _⟩ | ⟨g', cap, cur, hv, _, hb, _⟩
  · cases e
  · injection hv with hA
    injection hA with hA
    injection hA with e1
    subst e1
    exact held_frozen hb
/-- The first i of s are in the rows, in order. -/
def Cv (R : List SR) (s : List EV) (i : Nat) : Prop := (∀ j (hj : j < R.length), R[j].l.Sublist (s.take i)) ∧ ∀ x ∈ s.take i, ∃ j, ∃ hj : j < R.length, x ∈ R[j].l
theorem Cv.zero (s : List EV) : Cv [noR, noR, noR, noR] s 0 := by
  refine ⟨fun j hj => ?_, fun x hx => by simp at hx⟩
  match j, hj with
  | 0, _ => exact List.nil_sublist _
  | 1, _ => exact List.nil_sublist _
  | 2, _ => exact List.nil_sublist _
  | 3, _ => exact List.nil_sublist _
theorem Cv.first {R : List SR} {s : List EV} {i : Nat} (h : Cv R s i) (hi : i < s.length) {a : Nat} (ha : a < R.length) (A : Option Addr) (c : Nat) : Cv (R.set a ⟨A, c, R[a].l ++ [s[i]]⟩) s (i + 1) := by
  have e := List.take_succ_eq_append_getElem hi
  refine ⟨fun j hj => ?_, fun x hx => ?_⟩
  · rw [List.length_set] at hj
    rw [e]
    by_cases ej : j = a
    · subst ej
      rw [List.getElem_set_self]
      exact (h.1 j (by simpa using hj)).append (List.Sublist.refl _)
    · rw [List.getElem_set_ne (fun c => ej c.symm)]
      exact (h.1 j hj).trans (List.sublist_append_left _ _)
  · rw [e] at hx
    rcases List.mem_append.1 hx with hx | hx
    · obtain ⟨j, hj, hxj⟩ := h.2 x hx
      refine ⟨j, by rw [List.length_set]; exact hj, ?_⟩
      by_cases ej : j = a
      · subst ej
        rw [List.getElem_set_self]
        exact List.mem_append_left _ hxj
      · rw [List.getElem_set_ne (fun c => ej c.symm)]
        exact hxj
    · exact ⟨a, by rw [List.length_set]; exact ha, by rw [List.getElem_set_self]; exact List.mem_append_right _ hx⟩
theorem Cv.second {R : List SR} {s : List EV} {i : Nat} (h : Cv R s (i + 1)) (hi : i < s.length) {b : Nat} (hb : b < R.length) (hs : R[b].l.Sublist (s.take i)) (A : Option Addr) (c : Nat) : Cv (R.set b ⟨A, c, R[b].l ++ [s[i]]⟩) s (i + 1) := by
  have e := List.take_succ_eq_append_getElem hi
  refine ⟨fun j hj => ?_, fun x hx => ?_⟩
  · rw [List.length_set] at hj
    by_cases ej : j = b
    · subst ej
      rw [List.getElem_set_self, e]
      exact hs.append (List.Sublist.refl _)
    · rw [List.getElem_set_ne (fun c => ej c.symm)]
      exact h.1 j hj
  · obtain ⟨j, hj, hxj⟩ := h.2 x hx
    refine ⟨j, by rw [List.length_set]; exact hj, ?_⟩
    by_cases ej : j = b
    · subst ej
      rw [List.getElem_set_self]
      exact List.mem_append_left _ hxj
    · rw [List.getElem_set_ne (fun c => ej c.symm)]
      exact hxj
theorem own4 {w : World} {B : Nat} {v : Value} {s : List EV} (h : KEnt.Own w B v s) {j : Nat} (hj : j < s.length) : ∃ b off c, v = .slice (some ⟨b, off, none⟩) s.length c ∧ B ≤ b ∧ b < w.heap.size ∧ w.cell? ⟨b, off + j * 4, none⟩ = some (.int .i64 (s[j]).1.seq) ∧ w.cell? ⟨b, off + j * 4 + 1, none⟩ = some (.int .i64 (s[j]).1.time) ∧ w.cell? ⟨b, off + j * 4 + 2, none⟩ = some (.slice (s[j]).2.1 (s[j]).1.labs.length (s[j]).2.2) ∧ w.cell? ⟨b, off + j * 4 + 3, none⟩ = some (.string ⟨(s[j]).1.line.toArray⟩) := by
  obtain ⟨A, c, rfl, _⟩ := h.rd.form
  obtain ⟨b, off, hA, hb, c0, c1, c2, c3⟩ := Go.Proofs.Ytcffagfkpkfgbaa.Rd4 h.rd hj
  subst hA
  exact ⟨b, off, c, rfl, (h.lt b rfl).1, hb, c0, c1, c2, c3⟩
theorem md4 (t : Int) : 0 ≤ (wrap64 (t.tmod 4 + 4)).tmod 4 ∧ (wrap64 (t.tmod 4 + 4)).tmod 4 < 4 := by
  have h1 : -4 < t.tmod 4 := by
    have := Int.tmod_lt_of_pos (-t) (b := 4) (by decide)
    rw [Int.neg_tmod] at this
    omega
  have h2 : t.tmod 4 < 4 := Int.tmod_lt_of_pos t (by decide)
  generalize t.tmod 4 = u at *
  have e1 : wrap64 (u + 4) = u + 4 := by unfold wrap64; omega
  rw [e1, Int.tmod_eq_emod_of_nonneg (by omega)]
  omega
/-- 'append(v, x)' in a region that draws its order: the row is where it was, or new. -/
theorem step_app1L {P : Program} {ops : Array Oper} {o : Oper} {a : Act} {Kn : Act → World → Prop} {Q : Exit → Act → World → Prop} {E : Prop} {w : World} (hgd : o.guard = none) (s x : Operand) (t : TypeId)
    (ho : o.op = .call { callee := .builtin .append, args := #[s, x], argTypes := #[t, t] }) (ht : P.underlying t = some (.slice KEnt.e)) {zv : Value} {by' : Nat} (info : (P.info? KEnt.e).map (fun i => (i.zero, i.size, i.bytes)) = some (some zv, KEnt.z, by')) (hzs : zv.cells.size = KEnt.z)
    (B : Nat) (v : Value) (l : List EV) (b : EV) (hs : a.eval s = v) (hown : KEnt.Own w B v l) (n : Nat) (hblk : w.heap[n]? = some (.cells (KEnt.enc b).toArray KEnt.e (0, 0))) (hx : a.eval x = .slice (some ⟨n, 0, none⟩) 1 1)
    (hmax : l.length + 1 ≤ maxLen) (hlen : (l.length + 1) * by' ≤ 140737488355328) (hB : B ≤ w.heap.size)
    (h : ∀ g cap w', KEnt.Own w' B (.slice (some ⟨g, 0, none⟩) (l ++ [b]).length cap) (l ++ [b]) → w.grownBy w' v.ownBlock → (v.ownBlock = some g ∨ g = w.heap.size) → Kn (a.put o.dst (.slice (some ⟨g, 0, none⟩) (l ++ [b]).length cap)) w') :
    if Region.wanted o (yielded ops a.tmps) = true then Oper.wp P o a w Kn Q else E := by
  obtain ⟨i0, hi, hz0, hz1, hz2⟩ := info_parts info
  refine step_append_lies w hgd s x t ho B KEnt.e i0 zv KEnt.z by' ht hi hz0 hz1 hz2 hzs KEnt.pos v l.length (KEnt.cells l) hs hown ⟨n, 0, none⟩ 1 1 (KEnt.enc b) hx ?_ ?_ ?_ (by omega) hmax hlen hB _ rfl ?_
  · rw [KEnt.len, Nat.one_mul]
  · exact World.news_of_block hblk
  · exact fun u hu => KEnt.one b u hu
  · intro g cap w' h1 h2 h3 h4
    have el : (l ++ [b]).length = l.length + 1 := by rw [List.length_append]; rfl
    rw [← el] at h1
    have := h g cap w' (by
      unfold Kd.Own
      rw [Kd.cells_app]
      have e : KEnt.cells [b] = KEnt.enc b := by simp [Kd.cells]
      rw [e]
      exact h1) h2 h3
    rwa [el] at this
end Go.Icz
