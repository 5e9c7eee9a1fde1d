/-
  A file of a disk: it extended; what a list of kept and lost tells, one by one; a file behind a crash. Conditions: those that each theorem names.
-/
import Derived.Test.YtjpneohachkheaaSm2
import Derived.Maps.AppendAt
namespace Go.Icz
open Go.RowKit
theorem KB_cells (l : List Nat) : KB.cells l = l.map fun x : Nat => Value.int .u8 (x : Int) := by
  unfold Kd.cells
  induction l with
  | nil => rfl
  | cons a r ih => rw [List.flatMap_cons, ih]; rfl
theorem setCells_row {b : Nat} {t : TypeId} : ∀ (vs : List Value) (o : Nat) (w : World) (cur : Array Value), w.heap[b]? = some (.cells cur t (0, 0)) → o + vs.length ≤ cur.size →
    ∃ cur' : Array Value, (w.setCells b o vs).heap[b]? = some (.cells cur' t (0, 0)) ∧ cur'.toList = cur.toList.take o ++ vs ++ cur.toList.drop (o + vs.length)
  | [], o, w, cur, h, _ => ⟨cur, h, by simp⟩
  | v :: r, o, w, cur, h, hl => by
    rw [List.length_cons] at hl
    obtain ⟨cur', h1, h2⟩ := setCells_row r (o + 1) (w.setCell ⟨b, o, none⟩ v) (cur.setIfInBounds o v) (row_set h v) (by rw [Array.size_setIfInBounds]; omega)
    refine ⟨cur', h1, ?_⟩
    have ho : o < cur.toList.length := by rw [Array.length_toList]; omega
    rw [h2, Array.toList_setIfInBounds, List.length_cons]
    have e1 : (cur.toList.set o v).take (o + 1) = cur.toList.take o ++ [v] := by
      rw [List.take_succ_eq_append_getElem (by rw [List.length_set]; exact ho), List.getElem_set_self, List.take_set_of_le (Nat.le_refl _)]
    have e2 : (cur.toList.set o v).drop (o + 1 + r.length) = cur.toList.drop (o + (r.length + 1)) := by
      rw [List.drop_set_of_lt (by omega), show o + 1 + r.length = o + (r.length + 1) by omega]
    rw [e1, e2, List.append_assoc (cur.toList.take o), List.singleton_append]
theorem tch_setCells {S : Nat → Prop} {b : Nat} (hb : S b) : ∀ (vs : List Value) (o : Nat) (w : World), Tch S w (w.setCells b o vs)
  | [], _, w => Tch.refl _ _
  | v :: r, o, w => (Tch.set S w ⟨b, o, none⟩ v hb).trans (tch_setCells hb r (o + 1) _)
/-- Zeros in an own row of bytes. -/
theorem own_zero {w : World} {g n c : Nat} {l : List Nat} (h : KB.Own w 0 (.slice (some ⟨g, 0, none⟩) n c) l) {i m : Nat} (hm : i + m ≤ l.length) : KB.Own (w.setCells g i (List.replicate m (.int .u8 0))) 0 (.slice (some ⟨g, 0, none⟩) n c) (zero l i (i + m)) ∧ n = l.length := by
  rcases h.2 with ⟨hv, _⟩ | ⟨g', cap, cur, hv, hg, hh, h1, h2, h3, h4⟩
  · cases hv
  · injection hv with e1 e2 e3
    injection e1 with e1
    injection e1 with e1
    subst e1 e2 e3
    have hk : KB.z = 1 := rfl
    rw [hk, Nat.mul_one] at h3 h4
    obtain ⟨cur', h5, h6⟩ := setCells_row (t := KB.e) (List.replicate m (.int .u8 0)) i w cur hh (by rw [List.length_replicate]; omega)
    have hzl : (zero l i (i + m)).length = l.length := by
      unfold zero
      simp
      omega
    have hcl : cur.toList.length = c := by rw [Array.length_toList, h3]
    refine ⟨⟨?_, .inr ⟨g, c, cur', by rw [hzl], Nat.zero_le _, h5, by rw [hzl]; exact h1, h2, ?_, ?_⟩⟩, rfl⟩
    · rw [Kd.cells_len]
    · rw [hk, Nat.mul_one, ← Array.length_toList, h6]
      simp
      omega
    · rw [hk, Nat.mul_one, h6, hzl, List.length_replicate]
      have hl2 : cur.toList = KB.cells l ++ cur.toList.drop l.length := by rw [← h4, List.take_append_drop]
      have hcl2 : (KB.cells l).length = l.length := by rw [Kd.cells_len, hk, Nat.mul_one]
      generalize cur.toList.drop l.length = R at hl2
      rw [hl2]
      have e1 : (KB.cells l ++ R).take i = (KB.cells l).take i := List.take_append_of_le_length (by omega)
      have e2 : (KB.cells l ++ R).drop (i + m) = (KB.cells l).drop (i + m) ++ R := List.drop_append_of_le_length (by omega)
      rw [e1, e2, ← List.append_assoc, List.take_append_of_le_length (by simp; omega), List.take_of_length_le (by simp; omega)]
      rw [KB_cells, KB_cells]
      unfold zero
      simp [List.map_take, List.map_drop]
theorem own_front {w : World} {A : Option Addr} {n c e : Nat} {l : List Nat} (h : KB.Own w 0 (.slice A n c) l) (he : e ≤ l.length) : KB.Own w 0 (.slice A e c) (l.take e) := by
  have hl : (l.take e).length = e := by rw [List.length_take]; omega
  refine ⟨by rw [Kd.cells_len], ?_⟩
  rcases h.2 with ⟨hv, h0⟩ | ⟨g', cap, cur, hv, hg, hh, h1, h2, h3, h4⟩
  · injection hv with e1 e2 e3
    subst e1 e2 e3
    left
    have : e = 0 := by omega
    subst this
    exact ⟨rfl, hl⟩
  · injection hv with e1 e2 e3
    subst e1 e2 e3
    right
    refine ⟨g', c, cur, by rw [hl], hg, hh, by rw [hl]; omega, h2, h3, ?_⟩
    have hk : KB.z = 1 := rfl
    rw [hk, Nat.mul_one] at h4 ⊢
    rw [hl, KB_cells]
    rw [KB_cells] at h4
    rw [List.map_take, ← h4, List.take_take, Nat.min_eq_left he]
theorem Kd.run_app_at {α : Type} {K : Kd α} {P : Program} {w : World} (t ty : TypeId) (ht : P.underlying t = some (.slice K.e)) {zv : Value} {by' : Nat} (info : (P.info? K.e).map (fun i => (i.zero, i.size, i.bytes)) = some (some zv, K.z, by')) (hzs : zv.cells.size = K.z)
    (v u : Value) (l m : List α) (hown : K.Own w 0 v l) (hr : K.Rd w u m) (hmax : l.length + m.length ≤ maxLen) (hlen : (l.length + m.length) * by' ≤ 140737488355328) :
    ∃ v' w', (Builtin.append_ #[t, t] ty #[v, u]).run P w = .ok v' w' ∧ K.Own w' 0 v' (l ++ m) ∧ w.grownBy w' v.ownBlock ∧ (v'.ownBlock = v.ownBlock ∨ v'.ownBlock = some w.heap.size) := by
  obtain ⟨i, hi, hz, hsize, hby⟩ := info_parts info
  obtain ⟨A, c, rfl, hc, hcell⟩ := hr
  rcases A with _ | ad
  · have hm : m = [] := by
      rcases Nat.eq_zero_or_pos m.length with h0 | h0
      · exact List.eq_nil_of_length_eq_zero h0
      · obtain ⟨b, off, e, _⟩ := hcell h0
        cases e
    subst hm
    refine ⟨v, w, ?_, by simpa using hown, ⟨rfl, rfl, rfl, Nat.le_refl _, fun _ _ _ => rfl⟩, .inl rfl⟩
    rcases hown.2 with ⟨rfl, h0⟩ | ⟨g, cap, cur, rfl, _, _, hnc, _⟩
    · simp [Builtin.append_, run_underlying ht, sizeOf, typeInfo, hi, Builtin.lenOf, Builtin.firstCells]
    · simp [Builtin.append_, run_underlying ht, sizeOf, typeInfo, hi, Builtin.lenOf, Builtin.firstCells, hnc, storeCells]
  · have hnews : ∀ j u, (K.cells m)[j]? = some u → w.cell? (ad.add j) = some u := by
      intro j u hu
      have hj : 0 < m.length := by
        rcases Nat.eq_zero_or_pos m.length with h0 | h0
        · have : m = [] := List.eq_nil_of_length_eq_zero h0
          subst this
          cases hu
        · exact h0
      obtain ⟨b, off, e, _, hc'⟩ := hcell hj
      injection e with e
      subst e
      rw [add_flat]
      exact hc' j u hu
    obtain ⟨v', w', hrun, h1, h2, _, h4⟩ := run_append_own_at (P := P) (w := w) 0 t ty K.e i zv K.z by' ht hi hz hsize hby hzs K.pos v l.length (K.cells l) hown ad m.length c (K.cells m) (K.cells_len m) hnews (K.cells_one m) hmax hlen (Nat.zero_le _)
    exact ⟨v', w', hrun, by unfold Kd.Own; rw [K.cells_app, List.length_append]; exact h1, h2, h4⟩
theorem wpl_run {P : Program} {ops : Array Oper} {rest : List Oper} {o : Oper} {a : Act} {Q : Exit → Act → World → Prop} {w : World} (hgd : o.guard = none) (s x : Operand) (t : TypeId)
    (ho : o.op = .call { callee := .builtin .append, args := #[s, x], argTypes := #[t, t] }) (v u v' : Value) (w' : World) (hs : a.eval s = v) (hx : a.eval x = u)
    (hr : (Builtin.append_ #[t, t] o.type #[v, u]).run P w = .ok v' w') (h : wpList P ops Q rest (a.put o.dst v') w') : wpList P ops Q (o :: rest) a w :=
  wpList_plain hgd fun Kx hK => wp_run_app s x t ho v u v' w' hs hx hr (hK _ _ h)
theorem Kd.one_rd {α : Type} {K : Kd α} (w : World) (x : α) : K.Rd (w.alloc (.cells (K.enc x).toArray K.e)) (.slice (some ⟨w.heap.size, 0, none⟩) 1 1) [x] := by
  have e : K.cells [x] = K.enc x := by simp [Kd.cells]
  have r := (Kd.Own.lit (K := K) (B := w.heap.size) w [x] (by show 1 ≤ maxLen; decide) (Nat.le_refl _)).rd
  rwa [e] at r
/-- A list of kept and lost, in a box. -/
def Keep (S : Nat → Prop) (w : World) (x : Nat) (k : List Bool) : Prop := ∃ v, w.heap[x]? = some (.cells #[v] 23 (0, 0)) ∧ KBo.Rd w v k ∧ (0 < k.length → ∀ b, v.ownBlock = some b → ¬ S b) ∧ ¬ S x
theorem Keep.lt {S : Nat → Prop} {w : World} {x : Nat} {k : List Bool} (h : Keep S w x k) : x < w.heap.size := by
  obtain ⟨v, h1, _⟩ := h
  exact row_lt h1
theorem rd_touch {α : Type} {K : Kd α} {S : Nat → Prop} {w w' : World} {v : Value} {l : List α} (h : K.Rd w v l) (t : Tch S w w') (hS : 0 < l.length → ∀ b, v.ownBlock = some b → ¬ S b) : K.Rd w' v l := by
  obtain ⟨A, c, hv, hc, hr⟩ := h
  refine ⟨A, c, hv, hc, fun h0 => ?_⟩
  obtain ⟨b, off, hA, hlt, hcell⟩ := hr h0
  exact ⟨b, off, hA, Nat.lt_of_lt_of_le hlt t.size, fun j u hj => (t.cell hlt (hS h0 b (by rw [hv, hA]; rfl))).trans (hcell j u hj)⟩
theorem Keep.ne {w : World} {x : Nat} {v : Value} {k : List Bool} (h : w.heap[x]? = some (.cells #[v] 23 (0, 0))) (hr : KBo.Rd w v k) (h0 : 0 < k.length) : ∀ b, v.ownBlock = some b → b ≠ x := by
  rintro b hb rfl
  obtain ⟨A, c, hv, hc⟩ := hr.form
  subst hv
  obtain ⟨b', off, rfl, hlt, hcell⟩ := hr.at h0
  injection hb with hb
  have hb : b' = b := hb
  subst hb
  have := hcell 0 (.bool k[0]) (by decide) rfl
  rw [cell_of_row _ _ _ _ _ _ h] at this
  have ne : ∀ m : Nat, (#[(Value.slice (some ⟨b', off, none⟩) k.length c : Value)] : Array Value)[m]? ≠ some (.bool k[0]) := by
    intro m hm
    rcases m with _ | m
    · cases hm
    · cases hm
  exact ne _ this
theorem Keep.touch {S : Nat → Prop} {w w' : World} {x : Nat} {k : List Bool} (h : Keep S w x k) (t : Tch S w w') : Keep S w' x k := by
  obtain ⟨v, h1, h2, h3, h4⟩ := h
  exact ⟨v, t.row h1 h4, rd_touch h2 t (fun h0 b hb => h3 h0 b hb), h3, h4⟩
theorem rd_tail {w : World} {A : Option Addr} {n c : Nat} {a : Bool} {l : List Bool} (h : KBo.Rd w (.slice A n c) (a :: l)) : KBo.Rd w (sliced A 1 n c 1) l := by
  have hn : n = l.length + 1 := by
    obtain ⟨A', c', hv, _⟩ := h
    injection hv with _ e _
  subst hn
  have := h.part 1 (l.length + 1) (by omega) (by simp)
  rw [show KBo.z = 1 from rfl] at this
  simpa using this
end Go.Icz
namespace Go.Proofs.Ytjpneohachkheaa
open Go.RowKit Go.Icz Go.Maps Go.ChangeMaps Go.MapKept
set_option maxRecDepth 100000
theorem infoB : (Try.prog.info? KB.e).map (fun i => (i.zero, i.size, i.bytes)) = some (some (.int .u8 0), KB.z, 1) := by kernel_rfl
theorem infoN : (Try.prog.info? KN.e).map (fun i => (i.zero, i.size, i.bytes)) = some (some (.int .i64 0), KN.z, 8) := by kernel_rfl
theorem infoE : (Try.prog.info? KE.e).map (fun i => (i.zero, i.size, i.bytes)) = some (some .nilIface, KE.z, 16) := by kernel_rfl
/-- Is the next one kept? -/
theorem kept_is {S : Nat → Prop} {w : World} {x : Nat} {k : List Bool} (h : Keep S w x k) : Calls Try.prog 41 #[.pointer (some ⟨x, 0, none⟩)] w fun e w' => e = .returned (.bool (k.headD false)) ∧ Keep S w' x k.tail ∧ Tch (· = x) w w' := by
  obtain ⟨v, h1, h2, h3, h4⟩ := h
  obtain ⟨A, c, hv, hc⟩ := h2.form
  subst hv
  have c0 : w.cell? ⟨x, 0, none⟩ = some (.slice A k.length c) := held_cell h1 rfl
  have f0 := held_frozen (i := 0) h1
  cases k with
  | nil =>
    have HK : Hid (Keep S w x []) := hid ⟨_, h1, h2, h3, h4⟩
    simp only [List.length_nil] at c0
    clear h1 h2 h3 hc
    go_enter Try.func41, Try.ntmps41
    go_wp2
    go_ret
    exact ⟨rfl, HK.out, Tch.refl _ _⟩
  | cons a l =>
    obtain ⟨b, off, rfl, hlt, hcell⟩ := h2.at (j := 0) (by simp)
    have d0 : w.cell? ⟨b, off, none⟩ = some (.bool a) := by
      have := hcell 0 (.bool a) (by decide) rfl
      rwa [Nat.zero_mul, Nat.add_zero] at this
    have hsl : ∀ wx : World, (Instr.slice 23 (.slice (some ⟨b, off, none⟩) (l.length + 1) c) (some (.int .i64 1)) none none).run Try.prog wx = .ok (sliced (some ⟨b, off, none⟩) 1 (l.length + 1) c 1) wx := fun wx => by
      have := run_slice_l (P := Try.prog) (w := wx) 23 (some ⟨b, off, none⟩) (l.length + 1) c Try.underlying23 .i64 (1 : Int) (by omega) (by omega)
      rw [this]
      have hz : (sizeOf (Try.prog.elem 23)).run Try.prog wx = .ok 1 wx := by go_simp
      rw [hz]
      simp [Result.andThen]
    have HK : Hid (Keep S (w.setCell ⟨x, 0, none⟩ (sliced (some ⟨b, off, none⟩) 1 (l.length + 1) c 1)) x l) := hid ⟨_, row_set h1 _, rd_touch (rd_tail h2) (Tch.set (· = x) w ⟨x, 0, none⟩ _ rfl) (fun h0 b' hb' hx => by
      refine Keep.ne h1 h2 (by simp) b' ?_ hx
      unfold sliced at hb'
      rw [← hb']
      split <;> simp [Value.ownBlock, Addr.add] <;> split <;> simp_all), (fun _ b' hb' => h3 (by simp) b' (by
      unfold sliced at hb'
      rw [← hb']
      split <;> simp [Value.ownBlock, Addr.add] <;> split <;> simp_all)), h4⟩
    have hz : (((l.length + 1 : Nat) : Int) == 0) = false := by simp; omega
    have hz1 : (0 : Int) < ((l.length + 1 : Nat) : Int) := by omega
    simp only [List.length_cons] at c0
    generalize hLL : l.length + 1 = L at *
    have HLL := hid hLL
    generalize hSV : sliced (some (⟨b, off, none⟩ : Addr)) 1 L c 1 = sv at *
    have hk : ∃ A' n' c', sv = .slice A' n' c' := ⟨_, _, _, hSV.symm⟩
    obtain ⟨A', n', c', rfl⟩ := hk
    clear h1 h2 h3 hc hcell hSV hLL
    go_enter Try.func41, Try.ntmps41
    go_wp2
    go_ret
    exact ⟨rfl, HK.out, Tch.set _ _ _ _ rfl⟩
theorem slice_front {A : Option Addr} {n c e : Nat} (hA : A = none → c = 0) (ho : ∀ a, A = some a → ∃ g, a = ⟨g, 0, none⟩) (he : e ≤ c) (wx : World) : (Instr.slice 22 (.slice A n c) none (some (.int .i64 (e : Int))) none).run Try.prog wx = .ok (.slice A e c) wx := by
  have := run_slice_h (P := Try.prog) (w := wx) 22 A n c Try.underlying22 .i64 (e : Int) (by omega) (by omega)
  rw [this]
  have hz : (sizeOf (Try.prog.elem 22)).run Try.prog wx = .ok 1 wx := by go_simp
  rw [hz]
  simp only [Result.andThen, sliced]
  cases A with
  | none => simp
  | some a =>
    obtain ⟨g, rfl⟩ := ho a rfl
    simp [add_flat]
theorem slice_mid {g n c i m : Nat} (hm : 0 < m) (hc : i + m ≤ c) (wx : World) : (Instr.slice 22 (.slice (some ⟨g, 0, none⟩) n c) (some (.int .i64 (i : Int))) (some (.int .i64 ((i + m : Nat) : Int))) none).run Try.prog wx = .ok (.slice (some ⟨g, i, none⟩) m (c - i)) wx := by
  have := run_slice_lh (P := Try.prog) (w := wx) 22 (some ⟨g, 0, none⟩) n c Try.underlying22 .i64 .i64 (i : Int) ((i + m : Nat) : Int) (by omega) (by omega) (by omega)
  rw [this]
  have hz : (sizeOf (Try.prog.elem 22)).run Try.prog wx = .ok 1 wx := by go_simp
  rw [hz]
  simp only [Result.andThen, sliced]
  rw [if_neg (by omega)]
  simp only [Int.toNat_natCast, Option.map_some, add_flat]
  rw [show 0 + i * 1 = i by omega, show i + m - i = m by omega]
/-- A file extended. -/
theorem fextend_is {w : World} {x : FV} (h : Fil w x) (u : Value) (l : List Nat) (hu : KB.Rd w u l) (hb : x.m.b.length + l.length ≤ 1099511627776) (hp : x.m.ps.length ≤ 1099511627776) :
    Calls Try.prog 59 #[.pointer (some ⟨x.g, 0, none⟩), u] w fun e w' => e = .returned (.tuple #[]) ∧ ∃ bv pv, Fil w' ⟨x.g, bv, pv, extF x.m l⟩ ∧ Tch (FootF x) w w' ∧ (∀ k, bv.ownBlock = some k → x.bv.ownBlock = some k ∨ w.heap.size ≤ k) ∧ (∀ k, pv.ownBlock = some k → x.pv.ownBlock = some k ∨ w.heap.size ≤ k) := by
  obtain ⟨A, c, rfl, hc⟩ := hu.form
  by_cases h0 : l.length = 0
  · have he : extF x.m l = x.m := by unfold extF; rw [if_pos h0]
    have hd : decide ((0 : Int) < (l.length : Int)) = false := decide_eq_false (by omega)
    have HF := hid h
    clear h hu hb hp
    rw [h0] at hd ⊢
    go_enter Try.func59, Try.ntmps59
    go_wp2
    go_end0
    rw [he]
    exact ⟨rfl, _, _, HF.out, Tch.refl _ _, fun _ h => .inl h, fun _ h => .inl h⟩
  · have he : extF x.m l = ⟨x.m.b ++ l, x.m.s, x.m.ps ++ [l.length]⟩ := by unfold extF; rw [if_neg h0]
    have hd : (0 : Int) < (l.length : Int) := by omega
    have HX := hid h
    have c0 : w.cell? ⟨x.g, 0, none⟩ = some x.bv := held_cell h.at_ rfl
    have f0 := held_frozen (i := 0) h.at_
    have hbn : ∀ k, x.bv.ownBlock = some k → k ≠ x.g := fun k hk e => by
      obtain ⟨cur, hc⟩ := h.b.row hk
      exact tag_ne hc h.at_ (by decide) e
    have hpn : ∀ k, x.pv.ownBlock = some k → k ≠ x.g := fun k hk e => by
      obtain ⟨cur, hc⟩ := h.p.row hk
      exact tag_ne hc h.at_ (by decide) e
    have hbp : ∀ k, x.bv.ownBlock = some k → x.pv.ownBlock ≠ some k := fun k hk e => by
      obtain ⟨cur, hc⟩ := h.b.row hk
      obtain ⟨cur2, hc2⟩ := h.p.row e
      exact tag_ne hc hc2 (by decide) rfl
    have ob := h.b
    have hmm : x.m.b.length + l.length ≤ maxLen := by unfold maxLen; omega
    have hml : (x.m.b.length + l.length) * 1 ≤ 140737488355328 := by omega
    have hmm2 : x.m.ps.length + 1 ≤ maxLen := by unfold maxLen; omega
    have hml2 : (x.m.ps.length + 1) * 8 ≤ 140737488355328 := by omega
    have hgx := row_lt h.at_
    obtain ⟨v1, w1, run1, o1, g1, n1⟩ := Kd.run_app_at (K := KB) (P := Try.prog) (w := w) 22 22 Try.underlying22 infoB rfl x.bv _ x.m.b l h.b hu hmm hml
    obtain ⟨A1, c1, hv1, _⟩ := o1.rd.form
    generalize (x.m.b ++ l).length = L1 at hv1
    subst hv1
    have t1 : Tch (FootF x) w w1 := Tch.grown g1 (fun k hk => .inr (.inl hk))
    have x1 : w1.heap[x.g]? = some (.cells #[x.bv, .int .i64 (x.m.s : Int), x.pv] 82 (0, 0)) := (g1.block _ hgx (fun e => hbn _ e.symm rfl)).trans h.at_
    have p1 : KN.Own w1 0 x.pv x.m.ps := h.p.touch (Tch.grown (S := fun k => x.bv.ownBlock = some k) g1 (fun k hk => hk)) (fun j hj hk => hbp j hj hk)
    have c01 : w1.cell? ⟨x.g, 0, none⟩ = some x.bv := held_cell x1 rfl
    have f01 := held_frozen (i := 0) x1
    have x2 : (w1.setCell ⟨x.g, 0, none⟩ (.slice A1 L1 c1)).heap[x.g]? = some (.cells #[.slice A1 L1 c1, .int .i64 (x.m.s : Int), x.pv] 82 (0, 0)) := row_set x1 _
    have v1g : ∀ k, (Value.slice A1 L1 c1).ownBlock = some k → k ≠ x.g := fun k hk e => by
      obtain ⟨cur, hc⟩ := o1.row hk
      exact tag_ne hc x1 (by decide) e
    have t2 : Tch (· = x.g) w1 (w1.setCell ⟨x.g, 0, none⟩ (.slice A1 L1 c1)) := Tch.set (· = x.g) w1 ⟨x.g, 0, none⟩ _ rfl
    have o2 := o1.touch t2 (fun j hj hk => v1g j hk hj)
    have p2 := p1.touch t2 (fun j hj hk => hpn j hk hj)
    generalize hW2 : w1.setCell ⟨x.g, 0, none⟩ (.slice A1 L1 c1) = W2 at *
    have t3 : Tch (fun _ => False) W2 (W2.alloc (.cells #[.int .i64 (l.length : Int)] 3)) := Tch.alloc _ _ _
    have r3 : KN.Rd (W2.alloc (.cells #[.int .i64 (l.length : Int)] 3)) (.slice (some ⟨W2.heap.size, 0, none⟩) 1 1) [l.length] := Kd.one_rd (K := KN) W2 l.length
    have c22 : W2.cell? ⟨x.g, 2, none⟩ = some x.pv := held_cell x2 rfl
    have x3 := t3.row x2 (fun h => h)
    have o3 := o2.touch t3 (fun j hj => hj.elim)
    have p3 := p2.touch t3 (fun j hj => hj.elim)
    have hsz3 : W2.heap.size ≤ (W2.alloc (.cells #[.int .i64 (l.length : Int)] 3)).heap.size := t3.size
    generalize hW3 : W2.alloc (.cells #[.int .i64 (l.length : Int)] 3) = W3 at *
    obtain ⟨v4, w4, run4, o4, g4, n4⟩ := Kd.run_app_at (K := KN) (P := Try.prog) (w := W3) 80 80 Try.underlying80 infoN rfl x.pv _ x.m.ps [l.length] p3 r3 hmm2 hml2
    obtain ⟨A4, c4, hv4, _⟩ := o4.rd.form
    generalize (x.m.ps ++ [l.length]).length = L4 at hv4
    subst hv4
    have x4 : w4.heap[x.g]? = some (.cells #[.slice A1 L1 c1, .int .i64 (x.m.s : Int), x.pv] 82 (0, 0)) := (g4.block _ (row_lt x3) (fun e => hpn _ e.symm rfl)).trans x3
    have t4 : Tch (fun k => x.pv.ownBlock = some k) W3 w4 := Tch.grown g4 (fun k hk => hk)
    have b4 : KB.Own w4 0 (.slice A1 L1 c1) (x.m.b ++ l) := o3.touch t4 (fun j hj hk => by
      obtain ⟨cur, hc⟩ := o3.row hk
      obtain ⟨cur2, hc2⟩ := p3.row hj
      exact tag_ne hc hc2 (by decide) rfl)
    have c42 : w4.cell? ⟨x.g, 2, none⟩ = some x.pv := held_cell x4 rfl
    have f42 := held_frozen (i := 2) x4
    have x5 : (w4.setCell ⟨x.g, 2, none⟩ (.slice A4 L4 c4)).heap[x.g]? = some (.cells #[.slice A1 L1 c1, .int .i64 (x.m.s : Int), .slice A4 L4 c4] 82 (0, 0)) := row_set x4 _
    have t5 : Tch (· = x.g) w4 (w4.setCell ⟨x.g, 2, none⟩ (.slice A4 L4 c4)) := Tch.set (· = x.g) w4 ⟨x.g, 2, none⟩ _ rfl
    have v4g : ∀ k, (Value.slice A4 L4 c4).ownBlock = some k → k ≠ x.g := fun k hk e => by
      obtain ⟨cur, hc⟩ := o4.row hk
      exact tag_ne hc x4 (by decide) e
    have s12 : w1.heap.size = W2.heap.size := by rw [← hW2]; simp [World.setCell]
    have HE : Hid (Fil (w4.setCell ⟨x.g, 2, none⟩ (.slice A4 L4 c4)) ⟨x.g, .slice A1 L1 c1, .slice A4 L4 c4, extF x.m l⟩ ∧ Tch (FootF x) w (w4.setCell ⟨x.g, 2, none⟩ (.slice A4 L4 c4)) ∧ (∀ k, (Value.slice A1 L1 c1).ownBlock = some k → x.bv.ownBlock = some k ∨ w.heap.size ≤ k) ∧ (∀ k, (Value.slice A4 L4 c4).ownBlock = some k → x.pv.ownBlock = some k ∨ w.heap.size ≤ k)) := by
      refine hid ⟨?_, ?_, ?_, ?_⟩
      · rw [he]
        exact ⟨x5, b4.touch t5 (fun j hj hk => v1g j hk hj), o4.touch t5 (fun j hj hk => v4g j hk hj)⟩
      · refine t1.trans ((t2.mono (fun k hk => .inl hk)).trans ((t3.mono (fun k hk => hk.elim)).trans ((t4.mono (fun k hk => .inr (.inr hk))).trans (t5.mono (fun k hk => .inl hk)))))
      · intro k hk
        rcases n1 with e | e
        · exact .inl (by rw [← e]; exact hk)
        · rw [e] at hk
          injection hk with hk
          exact .inr (by omega)
      · intro k hk
        rcases n4 with e | e
        · exact .inl (by rw [← e]; exact hk)
        · rw [e] at hk
          injection hk with hk
          have := g1.size
          exact .inr (by omega)
    rw [← s12] at run4
    have c12 : w1.cell? ⟨x.g, 2, none⟩ = some x.pv := held_cell x1 rfl
    subst hW3 hW2
    clear hu h ob hmm hml hmm2 hml2 n1 n4 o1 o2 o3 o4 p1 p2 p3 b4 t1 t2 t3 t4 t5 x1 x2 x3 x4 x5 g1 g4 r3 hsz3 s12 v1g v4g hbn hpn hbp hgx he hb hp c22
    have tk1 : True := trivial
    have tk2 : True := trivial
    go_enter Try.func59, Try.ntmps59
    go_wp2_with (first
      | (at_builtin; clear tk1; refine wpl_run rfl (.tmp 11) (.tmp 12) 22 rfl _ _ _ w1 rfl rfl run1 ?_)
      | (at_builtin; clear tk2; refine wpl_run rfl (.tmp 20) (.tmp 23) 80 rfl _ _ _ w4 rfl rfl run4 ?_))
    go_end0
    exact ⟨rfl, _, _, HE.out⟩
end Go.Proofs.Ytjpneohachkheaa
