/-
  What the reference's Drop does. Conditions: those that each theorem names.
-/
import Derived.Test.YtflhgoecmcfkkaaCrf1
import Derived.Deep.AppendLies
import Derived.Deep.RegionLaw
import Derived.Deep.RegionHeldLaw
namespace Go.Icz
open Go.RowKit
theorem Kd.run_app {α : Type} {K : Kd α} {P : Program} {w : World} (t ty : TypeId) (ht : P.underlying t = some (.slice K.e)) {zv : Value} {by' : Nat} (info : (P.info? K.e).map (fun i => (i.zero, i.size, i.bytes)) = some (some zv, K.z, by')) (hzs : zv.cells.size = K.z)
    (B : Nat) (v u : Value) (l m : List α) (hown : K.Own w B v l) (hr : K.Rd w u m) (hmax : l.length + m.length ≤ maxLen) (hlen : (l.length + m.length) * by' ≤ 140737488355328) (hB : B ≤ w.heap.size) :
    ∃ v' w', (Builtin.append_ #[t, t] ty #[v, u]).run P w = .ok v' w' ∧ K.Own w' B v' (l ++ m) ∧ w.grownBy w' v.ownBlock := by
  obtain ⟨i, hi, hz, hsize, hby⟩ := info_parts info
  obtain ⟨A, c, rfl, hc, hcell⟩ := hr
  rcases A with _ | ad
  · have hm : m = [] := by
      rcases Nat.eq_zero_or_pos m.length with h0 | h0
      · exact List.eq_nil_of_length_eq_zero h0
      · obtain ⟨b, off, e, _⟩ := hcell h0
        cases e
    subst hm
    refine ⟨v, w, ?_, by simpa using hown, ⟨rfl, rfl, rfl, Nat.le_refl _, fun _ _ _ => rfl⟩⟩
    rcases hown.2 with ⟨rfl, h0⟩ | ⟨g, cap, cur, rfl, _, _, hnc, _⟩
    · simp [Builtin.append_, run_underlying ht, sizeOf, typeInfo, hi, Builtin.lenOf, Builtin.firstCells]
    · simp [Builtin.append_, run_underlying ht, sizeOf, typeInfo, hi, Builtin.lenOf, Builtin.firstCells, hnc, storeCells]
  · have hnews : ∀ j u, (K.cells m)[j]? = some u → w.cell? (ad.add j) = some u := by
      intro j u hu
      have hj : 0 < m.length := by
        rcases Nat.eq_zero_or_pos m.length with h0 | h0
        · have : m = [] := List.eq_nil_of_length_eq_zero h0
          subst this
          cases hu
        · exact h0
      obtain ⟨b, off, e, _, hc'⟩ := hcell hj
      injection e with e
      subst e
      rw [add_flat]
      exact hc' j u hu
    obtain ⟨v', w', hrun, h1, h2, _⟩ := run_append_own (P := P) w B t ty K.e i zv K.z by' ht hi hz hsize hby hzs K.pos v l.length (K.cells l) hown ad m.length c (K.cells m) (K.cells_len m) hnews (K.cells_one m) hmax hlen hB
    exact ⟨v', w', hrun, by unfold Kd.Own; rw [K.cells_app, List.length_append]; exact h1, h2⟩
theorem wp_run_app {P : Program} {w : World} {o : Oper} {a : Act} {K : Act → World → Prop} {Q : Exit → Act → World → Prop} (s x : Operand) (t : TypeId)
    (ho : o.op = .call { callee := .builtin .append, args := #[s, x], argTypes := #[t, t] }) (v u v' : Value) (w' : World) (hs : a.eval s = v) (hx : a.eval x = u)
    (hr : (Builtin.append_ #[t, t] o.type #[v, u]).run P w = .ok v' w') (h : K (a.put o.dst v') w') : o.wp P a w K Q := by
  unfold Oper.wp execOp
  simp only [ho, resolve, invoke, builtin, Sem.run_bind, Sem.run_pure, Result.andThen_ok, List.map_toArray, List.map_cons, List.map_nil, hs, hx, hr]
  exact h
theorem step_run_app {P : Program} {ops : Array Oper} {w : World} {o : Oper} {a : Act} {K : Act → World → Prop} {Q : Exit → Act → World → Prop} {E : Prop} (hgd : o.guard = none) (s x : Operand) (t : TypeId)
    (ho : o.op = .call { callee := .builtin .append, args := #[s, x], argTypes := #[t, t] }) (v u v' : Value) (w' : World) (hs : a.eval s = v) (hx : a.eval x = u)
    (hr : (Builtin.append_ #[t, t] o.type #[v, u]).run P w = .ok v' w') (h : K (a.put o.dst v') w') : if Region.wanted o (yielded ops a.tmps) = true then Oper.wp P o a w K Q else E := by
  have hw : Region.wanted o (yielded ops a.tmps) = true := by simp [Region.wanted, hgd]
  rw [if_pos hw]
  exact wp_run_app s x t ho v u v' w' hs hx hr h
theorem Kd.Rd.front {α : Type} {K : Kd α} {w : World} {A : Option Addr} {n c : Nat} {xs ys : List α} (h : K.Rd w (.slice A n c) (xs ++ ys)) : K.Rd w (.slice A xs.length c) xs := by
  obtain ⟨A', c', hv, hc, hr⟩ := h
  injection hv with e1 e2 e3
  subst e1 e2 e3
  rw [List.length_append] at hc hr
  refine ⟨A, c, rfl, by omega, fun h0 => ?_⟩
  obtain ⟨b, off, hA, hlt, hcell⟩ := hr (by omega)
  refine ⟨b, off, hA, hlt, fun j u hu => hcell j u ?_⟩
  rw [K.cells_app, List.getElem?_append_left]
  · exact hu
  · exact (List.getElem?_eq_some_iff.1 hu).1
end Go.Icz
namespace Go.Proofs.Ytflhgoecmcfkkaa
open Go.RowKit Go.Icz Go.Maps
theorem infoIt : (Try.prog.info? 76).map (fun i => (i.zero, i.size, i.bytes)) = some (some (.agg #[.string ⟨#[]⟩, .slice none 0 0]), 2, 40) := by kernel_rfl
set_option maxRecDepth 100000 in
theorem R8Drop_no {w : World} {B rq li : Nat} {hi mi : Int} {v : Value} {l : List RIt} (h : Rf w B rq li hi mi v l) (k : ByteArray) (hk : ∀ x ∈ l, x.key ≠ k) : Calls Try.prog 25 #[.pointer (some ⟨rq, 0, none⟩), .string k] w fun e w' => e = .returned (.bool false) ∧ w' = w := by
  have hF := find_no h k hk
  clear h hk
  go_enter Try.func25, Try.ntmps25
  go_wp2_with (go_at_call 37; refine hF.mono ?_; rintro e w1 ⟨rfl, rfl⟩)
  go_ret
  exact ⟨rfl, rfl⟩
set_option maxRecDepth 100000 in
set_option maxHeartbeats 2000000 in
theorem R8Drop_yes {w : World} {B rq li : Nat} {hi mi : Int} {v : Value} {xs ys : List RIt} {x : RIt} (h : Rf w B rq li hi mi v (xs ++ x :: ys)) (hk : ∀ y ∈ xs, y.key ≠ x.key) : Calls Try.prog 25 #[.pointer (some ⟨rq, 0, none⟩), .string x.key] w fun e w' => e = .returned (.bool true) ∧ ∃ v', Rf w' B rq li hi mi v' (xs ++ ys) ∧ Tch (· = rq) w w' ∧ (∀ b, v'.ownBlock = some b → w.heap.size ≤ b) := by
  have hF := find_yes h hk
  obtain ⟨A, c, rfl⟩ := h.form
  have c3 : w.cell? ⟨rq, 3, none⟩ = some (.slice A (xs ++ x :: ys).length c) := held_cell h.at_ rfl
  have f3 : w.frozen? ⟨rq, 3, none⟩ = false := held_frozen h.at_
  have hll : (xs ++ x :: ys).length = xs.length + ys.length + 1 := by simp; omega
  have hrd := h.tl.rd
  obtain ⟨b, off, hA, hbl, _⟩ := KR.at hrd (by omega)
  subst hA
  have hcap : (xs ++ x :: ys).length ≤ c := by
    obtain ⟨_, _, e, hc, _⟩ := hrd
    injection e with _ _ e3
    omega
  have hlen := h.len
  have hal : Below w.heap.size w (w.alloc (.cells #[] 76)).drew := ((Below.refl _ w).alloc (Nat.le_refl _) _).drew
  have hsz1 : (w.alloc (.cells #[] 76)).drew.heap.size = w.heap.size + 1 := by simp [World.drew]
  have hmade : KR.Own (w.alloc (.cells #[] 76)).drew w.heap.size (.slice (some ⟨w.heap.size, 0, none⟩) 0 0) [] := World.ownsRow_made (e := 76) (size := 2) w #[] 0 (Nat.le_refl _) (by decide) rfl
  obtain ⟨v1, w2, r1, o1, g1⟩ := Kd.run_app (K := KR) 58 58 Try.underlying58 infoIt rfl w.heap.size (.slice (some ⟨w.heap.size, 0, none⟩) 0 0) (.slice (some ⟨b, off, none⟩) xs.length c) [] xs hmade (hrd.front.below hal) (by simp; unfold maxLen; omega) (by simp; omega) (by rw [hsz1]; omega)
  rw [List.nil_append] at o1
  have b2 : Below w.heap.size w w2 := hal.trans ⟨g1.os, g1.tape, g1.output, g1.size, fun k hk => g1.block k (by rw [hsz1]; omega) (by simp [Value.ownBlock]; omega)⟩
  have p2 := hrd.part (xs.length + 1) (xs ++ x :: ys).length (by omega) (Nat.le_refl _)
  rw [hll] at c3 hcap hlen p2
  have hdr : (List.drop (xs.length + 1) (xs ++ x :: ys)).take (xs.length + ys.length + 1 - (xs.length + 1)) = ys := by
    rw [List.drop_append, List.drop_eq_nil_of_le (by omega), show xs.length + 1 - xs.length = 1 by omega]
    simp
  rw [hdr] at p2
  have hfl : sliced (some (⟨b, off, none⟩ : Addr)) (xs.length + 1) (xs.length + ys.length + 1) c KR.z = .slice (if c = xs.length + 1 then some ⟨b, off, none⟩ else some ⟨b, off + (xs.length + 1) * 2, none⟩) (xs.length + ys.length + 1 - (xs.length + 1)) (c - (xs.length + 1)) := by
    unfold sliced
    by_cases e : c = xs.length + 1
    · rw [if_pos e, if_pos e]
    · rw [if_neg e, if_neg e, Option.map_some, add_flat]
      rfl
  rw [hfl] at p2
  have hB2 : w.heap.size ≤ w2.heap.size := b2.size
  obtain ⟨v2, w3, r2, o2, g2⟩ := Kd.run_app (K := KR) 58 58 Try.underlying58 infoIt rfl w.heap.size v1 _ xs ys o1 (p2.below b2) (by unfold maxLen; omega) (by omega) hB2
  obtain ⟨AA, cc, hv2, _⟩ := (Kd.Own.rd o2).form
  obtain ⟨n2, hn2⟩ : ∃ n2, n2 = (xs ++ ys).length := ⟨_, rfl⟩
  rw [← hn2] at hv2
  have b3 : Below w.heap.size w w3 := b2.grown g2 hB2 (fun k hk => (Kd.Own.lt o1 k hk).1)
  have hrqlt := row_lt h.at_
  have d2 := (b3.cell (p := ⟨rq, 3, none⟩) hrqlt).trans c3
  have z3 := (b3.frozen (p := ⟨rq, 3, none⟩) hrqlt).trans f3
  have hat3 : w3.heap[rq]? = _ := (b3.block rq hrqlt).trans h.at_
  have fin : ∀ w4, Sm (w3.setCell ⟨rq, 3, none⟩ v2) w4 → ∃ v', Rf w4 B rq li hi mi v' (xs ++ ys) ∧ Tch (· = rq) w w4 ∧ (∀ b, v'.ownBlock = some b → w.heap.size ≤ b) := by
    intro w4 k4
    have t3 : Tch (· = rq) w3 (w3.setCell ⟨rq, 3, none⟩ v2) := Tch.set _ _ _ _ rfl
    have hne : ∀ k, v2.ownBlock = some k → k ≠ rq := fun k hk e => by have := (Kd.Own.lt o2 k hk).1; omega
    have tt : Tch (· = rq) w w4 := k4.out ((Tch.of_below b3).trans t3)
    have hvs := h.vs
    have hle := h.le
    have hB0 : B ≤ w.heap.size := Nat.le_of_lt (Nat.lt_of_le_of_lt h.lo hrqlt)
    refine ⟨v2, ⟨k4.row (row_set (i := 3) hat3 v2), (Kd.Own.tail (Kd.Own.mono o2 hB0)).touch (fun k hk hn => (k4.block k (by simpa [World.setCell] using hk) (fun h => h)).trans (t3.block k hk hn)) hne, fun y hy => (hvs y ?_).touch tt ?_, h.lo, ?_, ?_⟩, tt, fun k hk => (Kd.Own.lt o2 k hk).1⟩
    · rcases List.mem_append.1 hy with hy | hy
      · exact List.mem_append.2 (.inl hy)
      · exact List.mem_append.2 (.inr (List.mem_cons_of_mem _ hy))
    · intro j hj; exact h.nb j (.inl hj)
    · rw [rtot_app] at hle ⊢
      have : rtot (x :: ys) = (x.key.size + x.val.length) + rtot ys := rfl
      omega
    · have hk2 := h.ks
      rw [List.map_append] at hk2 ⊢
      exact List.Nodup.sublist (List.Sublist.append (List.Sublist.refl _) (List.sublist_cons_self _ _)) hk2
  have d3 := (b2.cell (p := ⟨rq, 3, none⟩) hrqlt).trans c3
  have d3' := (hal.cell (p := ⟨rq, 3, none⟩) hrqlt).trans c3
  have d3'' : (w.alloc (.cells #[] 76)).cell? ⟨rq, 3, none⟩ = some (.slice (some ⟨b, off, none⟩) (xs.length + ys.length + 1) c) := d3'
  have hx0 : ((xs.length : Int) < 0) = False := eq_false (by omega)
  have hxc : xs.length ≤ c := by omega
  clear h hk hrd p2 hdr hfl o1 g1 o2 g2 b2 b3 hal hsz1 hmade hat3 hll
  subst hv2
  clear hn2
  generalize hnx : xs.length + 1 = nx at *
  have hwp : IntKind.i64.wrap ((xs.length : Int) + 1) = (nx : Int) := by rw [IntKind.wrap_i64]; omega
  have hpn : nx ≤ xs.length + ys.length + 1 := by omega
  generalize hn : xs.length + ys.length + 1 = n at *
  go_enter Try.func25, Try.ntmps25
  go_wp2_with (go_at_call 37; refine hF.mono ?_; rintro e w1 ⟨rfl, rfl⟩)
  go_region_law (first
    | (refine step_run_app rfl (.tmp 12) (.tmp 18) 58 rfl _ _ v1 w2 rfl rfl r1 ?_)
    | (refine step_run_app rfl (.tmp 19) (.tmp 26) 58 rfl _ _ (.slice AA n2 cc) w3 rfl rfl r2 ?_))
  all_goals go_wp2
  all_goals go_ret
  all_goals exact ⟨rfl, fin _ (Tch.refl _ _)⟩
end Go.Proofs.Ytflhgoecmcfkkaa
