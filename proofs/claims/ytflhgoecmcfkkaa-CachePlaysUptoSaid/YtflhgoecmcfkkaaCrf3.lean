/-
  What the reference's Drop, Peek and Get do. Conditions: those that each theorem names.
-/
import Derived.Test.YtflhgoecmcfkkaaCrf2
namespace Go.Icz
open Go.RowKit
def rdel (k : ByteArray) (l : List RIt) : List RIt := l.filter fun x => decide (x.key ≠ k)
def isInR (k : ByteArray) (l : List RIt) : Bool := l.any fun x => decide (x.key = k)
def valR (k : ByteArray) (l : List RIt) : List Nat := match l.find? fun x => decide (x.key = k) with | some x => x.val | none => []
def rbump (k : ByteArray) (l : List RIt) : List RIt := match l.find? fun x => decide (x.key = k) with | some x => rdel k l ++ [x] | none => l
theorem isInR_no {k : ByteArray} {l : List RIt} (h : isInR k l = false) : ∀ x ∈ l, x.key ≠ k := by
  unfold isInR at h
  intro x hx
  simpa using List.any_eq_false.1 h x hx
theorem isInR_split {k : ByteArray} {l : List RIt} (h : isInR k l = true) : ∃ xs x ys, l = xs ++ x :: ys ∧ x.key = k := by
  unfold isInR at h
  obtain ⟨e, he, hk⟩ := List.any_eq_true.1 h
  obtain ⟨s, t, rfl⟩ := List.append_of_mem he
  exact ⟨s, e, t, rfl, by simpa using hk⟩
theorem rkeys_mid {xs ys : List RIt} {x : RIt} (h : ((xs ++ x :: ys).map (·.key)).Nodup) : (∀ y ∈ xs, y.key ≠ x.key) ∧ ∀ y ∈ ys, y.key ≠ x.key := by
  rw [List.map_append, List.map_cons] at h
  have hh := List.nodup_append.1 h
  refine ⟨fun y hy => hh.2.2 _ (List.mem_map.2 ⟨y, hy, rfl⟩) _ (List.mem_cons_self ..), fun y hy he => ?_⟩
  exact (List.nodup_cons.1 hh.2.1).1 (List.mem_map.2 ⟨y, hy, he⟩)
theorem rdel_no {k : ByteArray} {l : List RIt} (h : ∀ x ∈ l, x.key ≠ k) : rdel k l = l := List.filter_eq_self.2 fun x hx => decide_eq_true (h x hx)
theorem rdel_mid {xs ys : List RIt} {x : RIt} (h : ((xs ++ x :: ys).map (·.key)).Nodup) : rdel x.key (xs ++ x :: ys) = xs ++ ys := by
  obtain ⟨h1, h2⟩ := rkeys_mid h
  have a1 : rdel x.key xs = xs := rdel_no h1
  have a2 : rdel x.key ys = ys := rdel_no h2
  unfold rdel at *
  rw [List.filter_append, List.filter_cons, a1, a2]
  simp
theorem rfind_no {k : ByteArray} {l : List RIt} (h : ∀ x ∈ l, x.key ≠ k) : (l.find? fun x => decide (x.key = k)) = none := by
  rw [List.find?_eq_none]
  intro x hx
  simpa using h x hx
theorem rfind_mid {xs ys : List RIt} {x : RIt} (h : ((xs ++ x :: ys).map (·.key)).Nodup) : ((xs ++ x :: ys).find? fun y => decide (y.key = x.key)) = some x := by
  rw [List.find?_append, rfind_no (rkeys_mid h).1]
  simp
theorem mem_rdel {k : ByteArray} {l : List RIt} {x : RIt} : x ∈ rdel k l ↔ x ∈ l ∧ x.key ≠ k := by
  unfold rdel
  rw [List.mem_filter]
  simp
theorem wpList_run_app {P : Program} {w : World} {ops : Array Oper} {rest : List Oper} {o : Oper} {a : Act} {Q : Exit → Act → World → Prop} (hgd : o.guard = none) (s x : Operand) (t : TypeId)
    (ho : o.op = .call { callee := .builtin .append, args := #[s, x], argTypes := #[t, t] }) (v u v' : Value) (w' : World) (hs : a.eval s = v) (hx : a.eval x = u)
    (hr : (Builtin.append_ #[t, t] o.type #[v, u]).run P w = .ok v' w') (h : wpList P ops Q rest (a.put o.dst v') w') : wpList P ops Q (o :: rest) a w := by
  refine wpList_plain hgd fun K hK => ?_
  exact wp_run_app s x t ho v u v' w' hs hx hr (hK _ _ h)
end Go.Icz
namespace Go.Proofs.Ytflhgoecmcfkkaa
open Go.RowKit Go.Icz Go.Maps
theorem Rf.setHi {w : World} {B rq li : Nat} {hi mi : Int} {v : Value} {l : List RIt} (h : Rf w B rq li hi mi v l) (x : Int) : Rf (w.setCell ⟨rq, 1, none⟩ (.int .i64 x)) B rq li x mi v l ∧ Tch (· = rq) w (w.setCell ⟨rq, 1, none⟩ (.int .i64 x)) := by
  have t : Tch (· = rq) w (w.setCell ⟨rq, 1, none⟩ (.int .i64 x)) := Tch.set _ _ _ _ rfl
  have hne : ∀ b, v.ownBlock = some b → ¬ b = rq := fun b hb e => by
    obtain ⟨_, _, cur, hc⟩ := h.tl.lt b hb
    have := h.at_
    rw [← e, hc] at this
    injection this with this
    injection this with _ h3 _
    cases h3
  exact ⟨⟨row_set (i := 1) h.at_ _, h.tl.touch t.block hne, fun y hy => (h.vs y hy).touch t (fun j hj => h.nb j (.inl hj)), h.lo, h.le, h.ks⟩, t⟩
theorem Rf.setMi {w : World} {B rq li : Nat} {hi mi : Int} {v : Value} {l : List RIt} (h : Rf w B rq li hi mi v l) (x : Int) : Rf (w.setCell ⟨rq, 2, none⟩ (.int .i64 x)) B rq li hi x v l ∧ Tch (· = rq) w (w.setCell ⟨rq, 2, none⟩ (.int .i64 x)) := by
  have t : Tch (· = rq) w (w.setCell ⟨rq, 2, none⟩ (.int .i64 x)) := Tch.set _ _ _ _ rfl
  have hne : ∀ b, v.ownBlock = some b → ¬ b = rq := fun b hb e => by
    obtain ⟨_, _, cur, hc⟩ := h.tl.lt b hb
    have := h.at_
    rw [← e, hc] at this
    injection this with this
    injection this with _ h3 _
    cases h3
  exact ⟨⟨row_set (i := 2) h.at_ _, h.tl.touch t.block hne, fun y hy => (h.vs y hy).touch t (fun j hj => h.nb j (.inl hj)), h.lo, h.le, h.ks⟩, t⟩
/-- An item is appended. -/
theorem Rf.app {w : World} {B rq li : Nat} {hi mi : Int} {v : Value} {l : List RIt} (h : Rf w B rq li hi mi v l) (x : RIt) (hx : Own w B x.v x.val) (n : Nat) (hn : w.heap[n]? = some (.cells #[.string x.key, .slice x.A x.val.length x.c] 76 (0, 0))) (hkx : ∀ y ∈ l, y.key ≠ x.key) (hle : rtot l + (x.key.size + x.val.length) ≤ 1048576) :
    ∃ A' n' c' w2, (Builtin.append_ #[58, 58] 58 #[v, .slice (some ⟨n, 0, none⟩) 1 1]).run Try.prog w = .ok (.slice A' n' c') w2 ∧ w2.cell? ⟨rq, 3, none⟩ = some v ∧ w2.frozen? ⟨rq, 3, none⟩ = false ∧
      ∀ w3, Sm (w2.setCell ⟨rq, 3, none⟩ (.slice A' n' c')) w3 → Rf w3 B rq li hi mi (.slice A' n' c') (l ++ [x]) ∧ Tch (FootR rq v) w w3 ∧ (∀ b, (Value.slice A' n' c').ownBlock = some b → v.ownBlock = some b ∨ w.heap.size ≤ b) := by
  have hB : B ≤ w.heap.size := Nat.le_of_lt (Nat.lt_of_le_of_lt h.lo (row_lt h.at_))
  have hlen := h.len
  obtain ⟨v', w2, hrun, ht, hg, hb⟩ := Kd.run_append_tail (K := KR) 58 58 Try.underlying58 infoIt rfl B v l x h.tl ⟨n, 0, none⟩ (fun j u hu => by
    rw [add_flat, Nat.zero_add, cell_of_row _ _ _ _ _ _ hn]
    have hu' : [Value.string x.key, Value.slice x.A x.val.length x.c][j]? = some u := hu
    simpa using hu') 1 (by omega) (by unfold maxLen; omega) hB
  obtain ⟨A', c', hv', _⟩ := ht.rd.form
  subst hv'
  have hne : ∀ b, v.ownBlock = some b → ¬ b = rq := fun b hb e => by
    obtain ⟨_, _, cur, hc⟩ := h.tl.lt b hb
    have := h.at_
    rw [← e, hc] at this
    injection this with this
    injection this with _ h3 _
    cases h3
  have t1 : Tch (FootR rq v) w w2 := ⟨hg.os, hg.tape, hg.output, hg.size, fun k hk hn => hg.block k hk (fun e => hn (.inr e.symm))⟩
  have hrq2 : w2.heap[rq]? = _ := (hg.block rq (row_lt h.at_) (fun e => hne rq e.symm rfl)).trans h.at_
  have hbn : ∀ b, (Value.slice A' (l ++ [x]).length c').ownBlock = some b → v.ownBlock = some b ∨ w.heap.size ≤ b := fun b hb' => by
    rcases hb with e | e
    · exact .inl (e ▸ hb')
    · rw [e] at hb'
      injection hb' with hb'
      exact .inr (Nat.le_of_eq hb')
  refine ⟨A', _, c', w2, hrun, held_cell hrq2 rfl, held_frozen hrq2, fun w3 k3 => ?_⟩
  have t2 : Tch (· = rq) w2 (w2.setCell ⟨rq, 3, none⟩ (.slice A' (l ++ [x]).length c')) := Tch.set _ _ _ _ rfl
  have tt : Tch (FootR rq v) w w3 := k3.out (t1.trans (t2.mono fun j hj => .inl hj))
  refine ⟨⟨k3.row (row_set (i := 3) hrq2 _), ht.touch (fun k hk hn => (k3.block k (by simpa [World.setCell] using hk) (fun h => h)).trans (t2.block k hk hn)) ?_, fun y hy => ?_, h.lo, ?_, ?_⟩, tt, hbn⟩
  · intro b hb' e
    rcases hbn b hb' with h1 | h1
    · exact hne b h1 e
    · have := row_lt h.at_; omega
  · rcases List.mem_append.1 hy with hy | hy
    · exact (h.vs y hy).touch tt h.nb
    · obtain rfl : y = x := by simpa using hy
      exact hx.touch tt h.nb
  · rw [rtot_app]
    simpa [rtot] using hle
  · rw [List.map_append]
    refine List.nodup_append.2 ⟨h.ks, by simp, fun a ha b hb => ?_⟩
    obtain ⟨y, hy, rfl⟩ := List.mem_map.1 ha
    have : b = x.key := by simpa using hb
    rw [this]
    exact hkx y hy
theorem R8Drop_is {w : World} {B rq li : Nat} {hi mi : Int} {v : Value} {l : List RIt} (h : Rf w B rq li hi mi v l) (k : ByteArray) : Calls Try.prog 25 #[.pointer (some ⟨rq, 0, none⟩), .string k] w fun e w' => e = .returned (.bool (isInR k l)) ∧ ∃ v', Rf w' B rq li hi mi v' (rdel k l) ∧ Tch (· = rq) w w' ∧ (∀ b, v'.ownBlock = some b → v.ownBlock = some b ∨ w.heap.size ≤ b) := by
  cases hin : isInR k l with
  | false =>
    have hk := isInR_no hin
    refine (R8Drop_no h k hk).mono ?_
    rintro e w' ⟨rfl, rfl⟩
    rw [rdel_no hk]
    exact ⟨rfl, v, h, Tch.refl _ _, fun b hb => .inl hb⟩
  | true =>
    obtain ⟨xs, x, ys, rfl, rfl⟩ := isInR_split hin
    refine (R8Drop_yes h (rkeys_mid h.ks).1).mono ?_
    rintro e w' ⟨rfl, v', h', t', hb⟩
    rw [rdel_mid h.ks]
    exact ⟨rfl, v', h', t', fun b hb' => .inr (hb b hb')⟩
theorem R8Peek_is {w : World} {B rq li : Nat} {hi mi : Int} {v : Value} {l : List RIt} (h : Rf w B rq li hi mi v l) (k : ByteArray) : Calls Try.prog 24 #[.pointer (some ⟨rq, 0, none⟩), .string k] w fun e w' => ∃ u, e = .returned (.tuple #[u, .bool (isInR k l)]) ∧ Own w B u (valR k l) ∧ w' = w := by
  cases hin : isInR k l with
  | false =>
    have hk := isInR_no hin
    refine (R8Peek_no h k hk).mono ?_
    rintro e w' ⟨rfl, rfl⟩
    unfold valR
    rw [rfind_no hk]
    exact ⟨_, rfl, Own.nil _ _, rfl⟩
  | true =>
    obtain ⟨xs, x, ys, rfl, rfl⟩ := isInR_split hin
    refine (R8Peek_yes h (rkeys_mid h.ks).1).mono ?_
    rintro e w' ⟨rfl, rfl⟩
    unfold valR
    rw [rfind_mid h.ks]
    exact ⟨_, rfl, h.vs x (by simp), rfl⟩
set_option maxRecDepth 100000 in
set_option maxHeartbeats 2000000 in
theorem R8Get_is {w : World} {B rq li : Nat} {hi mi : Int} {v : Value} {l : List RIt} (h : Rf w B rq li hi mi v l) (k : ByteArray) :
    Calls Try.prog 23 #[.pointer (some ⟨rq, 0, none⟩), .string k] w fun e w' => ∃ u v', e = .returned (.tuple #[u, .bool (isInR k l)]) ∧ Own w' B u (valR k l) ∧ Rf w' B rq li (if isInR k l then IntKind.i64.wrap (hi + 1) else hi) (if isInR k l then mi else IntKind.i64.wrap (mi + 1)) v' (rbump k l) ∧ Tch (FootR rq v) w w' ∧
      (∀ b, v'.ownBlock = some b → v.ownBlock = some b ∨ w.heap.size ≤ b) := by
  have c1 : w.cell? ⟨rq, 1, none⟩ = some (.int .i64 hi) := held_cell h.at_ rfl
  have f1 : w.frozen? ⟨rq, 1, none⟩ = false := held_frozen h.at_
  have c2 : w.cell? ⟨rq, 2, none⟩ = some (.int .i64 mi) := held_cell h.at_ rfl
  have f2 : w.frozen? ⟨rq, 2, none⟩ = false := held_frozen h.at_
  have hPk := R8Peek_is h k
  cases hin : isInR k l with
  | false =>
    have hk := isInR_no hin
    rw [hin] at hPk
    have hS := h.setMi (IntKind.i64.wrap (mi + 1))
    have hb : rbump k l = l := by unfold rbump; rw [rfind_no hk]
    have hvr : valR k l = [] := by unfold valR; rw [rfind_no hk]
    rw [hb, hvr]
    simp only [Bool.false_eq_true, if_false]
    obtain ⟨hS1, hS2⟩ := hS
    clear hb hvr hk hin h
    generalize hmj : IntKind.i64.wrap (mi + 1) = mj at *
    go_enter Try.func23, Try.ntmps23
    go_wp2_with (go_at_call 24; refine hPk.mono ?_; rintro e w1 ⟨u1, rfl, o1, hw1⟩; have hw1 := hw1.symm; subst hw1)
    go_ret2
    exact ⟨_, v, rfl, Own.nil _ _, hS1, hS2.mono (fun j hj => .inl hj), fun b hb => .inl hb⟩
  | true =>
    obtain ⟨xs, x, ys, rfl, rfl⟩ := isInR_split hin
    rw [hin] at hPk
    have hS := h.setHi (IntKind.i64.wrap (hi + 1))
    have hb : rbump x.key (xs ++ x :: ys) = (xs ++ ys) ++ [x] := by unfold rbump; rw [rfind_mid h.ks]; simp only [rdel_mid h.ks]
    have hvr : valR x.key (xs ++ x :: ys) = x.val := by unfold valR; rw [rfind_mid h.ks]
    have hPy := R8Peek_yes h (rkeys_mid h.ks).1
    rw [hb, hvr]
    simp only [if_true]
    obtain ⟨hS1, hS2⟩ := hS
    have hD := R8Drop_yes hS1 (rkeys_mid h.ks).1
    have hov := h.vs x (by simp)
    have hfoot : NB (· = rq) w := fun j hj => h.nb j (.inl hj)
    have hle := h.le
    rw [rtot_app] at hle
    have hrt : rtot (x :: ys) = (x.key.size + x.val.length) + rtot ys := rfl
    have fin : ∀ w2 v2, Rf w2 B rq li (IntKind.i64.wrap (hi + 1)) mi v2 (xs ++ ys) → Tch (· = rq) (w.setCell ⟨rq, 1, none⟩ (.int .i64 (IntKind.i64.wrap (hi + 1)))) w2 → (∀ b, v2.ownBlock = some b → (w.setCell ⟨rq, 1, none⟩ (.int .i64 (IntKind.i64.wrap (hi + 1)))).heap.size ≤ b) →
        w2.cell? ⟨rq, 3, none⟩ = some v2 ∧ ∃ A' n' c' w3, (Builtin.append_ #[58, 58] 58 #[v2, .slice (some ⟨w2.heap.size, 0, none⟩) 1 1]).run Try.prog (w2.alloc (.cells #[.string x.key, .slice x.A x.val.length x.c] 76)) = .ok (.slice A' n' c') w3 ∧ w3.cell? ⟨rq, 3, none⟩ = some v2 ∧ w3.frozen? ⟨rq, 3, none⟩ = false ∧
          ∀ w4, Sm (w3.setCell ⟨rq, 3, none⟩ (.slice A' n' c')) w4 → Own w4 B x.v x.val ∧ Rf w4 B rq li (IntKind.i64.wrap (hi + 1)) mi (.slice A' n' c') ((xs ++ ys) ++ [x]) ∧ Tch (FootR rq v) w w4 ∧ (∀ b, (Value.slice A' n' c').ownBlock = some b → v.ownBlock = some b ∨ w.heap.size ≤ b) := by
      intro w2 v2 h2 t2 hb2
      have tw : Tch (· = rq) w w2 := hS2.trans t2
      have hsz : (w.setCell ⟨rq, 1, none⟩ (.int .i64 (IntKind.i64.wrap (hi + 1)))).heap.size = w.heap.size := by simp [World.setCell]
      have ha := (Below.refl w2.heap.size w2).alloc (Nat.le_refl _) (.cells #[.string x.key, .slice x.A x.val.length x.c] 76)
      have h2a := h2.below ha
      have ho2 : Own w2 B x.v x.val := hov.touch tw hfoot
      obtain ⟨A', n', c', w3, r3, d3, z3, f3⟩ := h2a.app x (ho2.below ha) w2.heap.size (heap_alloc_new w2 _) (fun y hy => by
        rcases List.mem_append.1 hy with hy | hy
        · exact (rkeys_mid h.ks).1 y hy
        · exact (rkeys_mid h.ks).2 y hy) (by rw [rtot_app]; omega)
      refine ⟨held_cell h2.at_ rfl, A', n', c', w3, r3, d3, z3, fun w4 k4 => ?_⟩
      obtain ⟨g1, g2, g3⟩ := f3 w4 k4
      have twa : Tch (FootR rq v) w (w2.alloc (.cells #[.string x.key, .slice x.A x.val.length x.c] 76)) := (tw.mono fun j hj => .inl hj).trans (Tch.of_below ha)
      refine ⟨g1.vs x (by simp), g1, twa.out g2 ?_, fun b hb => ?_⟩
      · rintro j (hj | hj)
        · exact .inl (.inl hj)
        · exact .inr (by have := hb2 j hj; omega)
      · rcases g3 b hb with h1 | h1
        · exact .inr (by have := hb2 b h1; omega)
        · exact .inr (Nat.le_trans twa.size h1)
    have e8 := row_lt h.at_
    clear hb hvr hin h hS1 hS2 hov hfoot hle hrt hPk
    generalize hhj : IntKind.i64.wrap (hi + 1) = hj at *
    obtain ⟨kx, Ax, cx, vx⟩ := x
    dsimp only at hPy hD fin ⊢
    go_enter Try.func23, Try.ntmps23
    go_wp2_with (first
      | (go_at_call 24; refine hPy.mono ?_; rintro e w1 ⟨rfl, hw1⟩; have hw1 := hw1.symm; subst hw1)
      | (go_at_call 25; refine hD.mono ?_; rintro e w2 ⟨rfl, v2, h2, t2, hb2⟩; obtain ⟨d2, A', n', c', w3, r3, d3, z3, f3⟩ := fin w2 v2 h2 t2 hb2)
      | (at_builtin; refine wpList_run_app rfl (.tmp 37) (.tmp 41) 58 rfl _ _ (.slice A' n' c') w3 rfl rfl r3 ?_))
    go_ret2
    obtain ⟨y1, y2, y3, y4⟩ := f3 _ (Tch.refl _ _)
    exact ⟨_, _, rfl, y1, y2, y3, y4⟩
end Go.Proofs.Ytflhgoecmcfkkaa
