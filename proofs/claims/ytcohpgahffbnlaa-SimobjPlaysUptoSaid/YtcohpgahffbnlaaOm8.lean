/-
  A change noted; the closures of a call. Conditions: those that each theorem names.
-/
import Derived.Test.YtcohpgahffbnlaaOm7
namespace Go.Icz
open Go.RowKit
theorem Kd.run_app_at {α : Type} {K : Kd α} {P : Program} {w : World} (t ty : TypeId) (ht : P.underlying t = some (.slice K.e)) {zv : Value} {by' : Nat} (info : (P.info? K.e).map (fun i => (i.zero, i.size, i.bytes)) = some (some zv, K.z, by')) (hzs : zv.cells.size = K.z)
    (v u : Value) (l m : List α) (hown : K.Own w 0 v l) (hr : K.Rd w u m) (hmax : l.length + m.length ≤ maxLen) (hlen : (l.length + m.length) * by' ≤ 140737488355328) :
    ∃ v' w', (Builtin.append_ #[t, t] ty #[v, u]).run P w = .ok v' w' ∧ K.Own w' 0 v' (l ++ m) ∧ w.grownBy w' v.ownBlock ∧ (v'.ownBlock = v.ownBlock ∨ v'.ownBlock = some w.heap.size) := by
  obtain ⟨i, hi, hz, hsize, hby⟩ := info_parts info
  obtain ⟨A, c, rfl, hc, hcell⟩ := hr
  rcases A with _ | ad
  · have hm : m = [] := by
      rcases Nat.eq_zero_or_pos m.length with h0 | h0
      · exact List.eq_nil_of_length_eq_zero h0
      · obtain ⟨b, off, e, _⟩ := hcell h0
        cases e
    subst hm
    refine ⟨v, w, ?_, by simpa using hown, ⟨rfl, rfl, rfl, Nat.le_refl _, fun _ _ _ => rfl⟩, .inl rfl⟩
    rcases hown.2 with ⟨rfl, h0⟩ | ⟨g, cap, cur, rfl, _, _, hnc, _⟩
    · simp [Builtin.append_, run_underlying ht, sizeOf, typeInfo, hi, Builtin.lenOf, Builtin.firstCells]
    · simp [Builtin.append_, run_underlying ht, sizeOf, typeInfo, hi, Builtin.lenOf, Builtin.firstCells, hnc, storeCells]
  · have hnews : ∀ j u, (K.cells m)[j]? = some u → w.cell? (ad.add j) = some u := by
      intro j u hu
      have hj : 0 < m.length := by
        rcases Nat.eq_zero_or_pos m.length with h0 | h0
        · have : m = [] := List.eq_nil_of_length_eq_zero h0
          subst this
          cases hu
        · exact h0
      obtain ⟨b, off, e, _, hc'⟩ := hcell hj
      injection e with e
      subst e
      rw [add_flat]
      exact hc' j u hu
    obtain ⟨v', w', hrun, h1, h2, _, h4⟩ := run_append_own_at (P := P) (w := w) 0 t ty K.e i zv K.z by' ht hi hz hsize hby hzs K.pos v l.length (K.cells l) hown ad m.length c (K.cells m) (K.cells_len m) hnews (K.cells_one m) hmax hlen (Nat.zero_le _)
    exact ⟨v', w', hrun, by unfold Kd.Own; rw [K.cells_app, List.length_append]; exact h1, h2, h4⟩
theorem Kd.one_rd {α : Type} {K : Kd α} (w : World) (x : α) : K.Rd (w.alloc (.cells (K.enc x).toArray K.e)) (.slice (some ⟨w.heap.size, 0, none⟩) 1 1) [x] := by
  have h := heap_alloc_new w (.cells (K.enc x).toArray K.e)
  refine ⟨_, 1, rfl, by simp, fun _ => ⟨w.heap.size, 0, rfl, by simp, fun j u hj => ?_⟩⟩
  rw [cell_of_row _ _ _ _ _ _ h]
  unfold Kd.cells at hj
  simpa using hj
end Go.Icz
namespace Go.Proofs.Ytcohpgahffbnlaa
open Go.RowKit Go.Icz Go.Maps Go.ChangeMaps Go.MapKept
set_option maxRecDepth 100000
set_option maxHeartbeats 4000000
variable {w : World} {T : Nat → Prop} {q p bO c : Nat} {cv : Value} {M : SM}
theorem kept_note {M : SM} (k : ByteArray) (b : Bool) : (keptS M ++ [(⟨M.now, k, b⟩ : Chg)]).dropWhile (oldB M) = keptS { M with ch := M.ch ++ [⟨M.now, k, b⟩] } :=
  drop_more (fun _ h => h) _ _
theorem note_is (R : Ro w T q p bO cv (keptS M) M) (hT : ∀ k, w.heap.size ≤ k → T k) (hwf : WfS M c) (hc : c + 1 ≤ 4194304) (k : ByteArray) (hk : k.size ≤ 64) (b : Bool) :
    Calls Try.prog 55 #[.pointer (some ⟨p, 0, none⟩), .string k, .bool b] w fun e w' => e = .returned (.tuple #[]) ∧ Fg w T q p bO cv (keptS { M with ch := M.ch ++ [⟨M.now, k, b⟩] }) { M with ch := M.ch ++ [⟨M.now, k, b⟩] } w' := by
  obtain ⟨X, hX⟩ : ∃ X, X = keptS M := ⟨_, rfl⟩
  have hXl : X.length ≤ 4194304 := by rw [hX]; exact Nat.le_trans ((List.dropWhile_suffix _).length_le) (Nat.le_trans hwf.lc hwf.hc)
  have hXt : ∀ x ∈ X, x.t ≤ M.now := fun x hx => hwf.ct x ((List.dropWhile_suffix _).subset (by rw [hX] at hx; exact hx))
  have hKN := kept_note (M := M) k b
  rw [← hX] at R hKN
  have hpl : p < w.heap.size := row_lt R.p_
  have hcn : cv.ownBlock ≠ some p := R.pne.2.2.1
  obtain ⟨M1, hM1⟩ : ∃ M1 : SM, M1 = { M with ch := M.ch ++ [⟨M.now, k, b⟩] } := ⟨_, rfl⟩
  rw [← hM1] at hKN ⊢
  have hno : M1.now = M.now := by rw [hM1]
  have hmo : M1.most = M.most := by rw [hM1]
  have hold : oldB M1 = oldB M := by rw [hM1]; rfl
  rw [← hold] at hKN
  have hnow := hwf.nw
  have hmost := hwf.mo
  have cells : ∀ w1, Tch (fun j => cv.ownBlock = some j) w w1 → w1.cell? ⟨p, 1, none⟩ = some cv ∧ w1.cell? ⟨p, 2, none⟩ = some (.int .i64 (M.now : Int)) ∧ w1.frozen? ⟨p, 1, none⟩ = false := fun w1 t => by
    have hr := t.row R.p_ (fun h => hcn h)
    exact ⟨held_cell hr rfl, held_cell hr rfl, held_frozen hr⟩
  have tB : ∀ w1, Below w.heap.size w w1 → Tch (fun j => cv.ownBlock = some j) w w1 := fun w1 b => Tch.of_below b
  -- the append, wherever the new one lies
  have APP : ∀ w1, Hid (Below w.heap.size w w1) → ∃ v6 w6 A6 n6 k6, v6 = .slice A6 n6 k6 ∧ ((Builtin.append_ #[38, 38] 38 #[cv, .slice (some ⟨w1.heap.size, 0, none⟩) 1 1]).run Try.prog (w1.alloc (.cells #[.int .i64 (M.now : Int), .string k, .bool b] 92)) = .ok v6 w6) ∧ ((w1.alloc (.cells #[.int .i64 (M.now : Int), .string k, .bool b] 92)).cell? ⟨p, 1, none⟩ = some cv ∧ (w1.alloc (.cells #[.int .i64 (M.now : Int), .string k, .bool b] 92)).cell? ⟨p, 2, none⟩ = some (.int .i64 (M.now : Int))) ∧ (w6.cell? ⟨p, 1, none⟩ = some cv ∧ w6.cell? ⟨p, 2, none⟩ = some (.int .i64 (M.now : Int))) ∧ w6.frozen? ⟨p, 1, none⟩ = false ∧
      Hid (Calls Try.prog 33 #[.pointer (some ⟨p, 0, none⟩)] (w6.setCell ⟨p, 1, none⟩ v6) fun e w' => e = .returned (.tuple #[]) ∧ Fg w T q p bO cv (keptS M1) M1 w') := by
    intro w1 hb
    have hba : Below w.heap.size w (w1.alloc (.cells #[.int .i64 (M.now : Int), .string k, .bool b] 92)) := hb.out.alloc hb.out.size _
    obtain ⟨v6, w6, hrun, o6, g6, n6⟩ := Kd.run_app_at (K := KC) (P := Try.prog) (w := w1.alloc (.cells #[.int .i64 (M.now : Int), .string k, .bool b] 92)) 38 38 Try.underlying38 infoC rfl cv _ X [⟨M.now, k, b⟩] (R.ch.below hba) (Kd.one_rd (K := KC) w1 ⟨M.now, k, b⟩) (by unfold maxLen; simp; omega) (by simp; omega)
    obtain ⟨A6, k6, hv6, _⟩ := o6.rd.form
    have t6 : Tch (fun j => cv.ownBlock = some j) w w6 := (tB _ hba).trans (Tch.grown g6 (fun j hj => hj))
    obtain ⟨c1, c2, c3⟩ := cells _ t6
    obtain ⟨d1, d2, _⟩ := cells _ (tB _ hba)
    have hnb : ∀ g, v6.ownBlock = some g → cv.ownBlock = some g ∨ w.heap.size ≤ g := fun g hg => by
      rcases n6 with h | h
      · exact .inl (by rw [← h]; exact hg)
      · rw [h] at hg
        injection hg with hg
        have := hba.size
        exact .inr (by omega)
    have hq : ∀ j, (j = p ∨ cv.ownBlock = some j) → j ≠ q ∧ j ≠ bO ∧ ∀ cs z, w.heap[j]? ≠ some (.cells cs 5 z) := fun j hj => by
      rcases hj with rfl | hj
      · exact ⟨R.pne.1, R.pne.2.1, R.pne.2.2.2⟩
      · obtain ⟨cur, hc⟩ := R.ch.row hj
        obtain ⟨es, ck, hm⟩ := R.ob.row
        exact ⟨tag_ne hc R.q_ (by decide), map_ne hc hm, fun cs z e => tag_ne hc e (by decide) rfl⟩
    have t7 : Tch (fun j => j = p ∨ cv.ownBlock = some j) w (w6.setCell ⟨p, 1, none⟩ v6) := (t6.mono (fun _ h => .inr h)).trans (Tch.set _ _ _ _ (.inl rfl))
    have hp6 := t6.row R.p_ (fun h => hcn h)
    have hTb : ∀ g, v6.ownBlock = some g → T g := fun g hg => by
      rcases hnb g hg with h | h
      · exact R.tc g h
      · exact hT g h
    have hv6p : ∀ g, v6.ownBlock = some g → g ≠ p := fun g hg e => by
      obtain ⟨cur, hc⟩ := o6.row hg
      exact tag_ne hc hp6 (by decide) e
    have R7 : Ro (w6.setCell ⟨p, 1, none⟩ v6) T q p bO v6 (X ++ [⟨M.now, k, b⟩]) M1 :=
      ⟨t7.row R.q_ (fun h => (hq _ h).1 rfl), by rw [row_set hp6, hM1]; rfl, by rw [hM1]; exact R.ob.touch t7 (fun h => (hq _ h).2.1 rfl) (fun j hj _ => (hq j hj).2.2), o6.touch (Tch.set (· = p) _ _ _ rfl) (fun j hj hg => hv6p j hg hj), R.tq, R.tp, R.tb, hTb⟩
    refine ⟨v6, w6, A6, _, k6, hv6, hrun, ⟨d1, d2⟩, ⟨c1, c2⟩, c3, hid ?_⟩
    refine (forget_is R7 (by have := hwf.lc; have := (List.dropWhile_suffix (oldB M) (l := M.ch)).length_le; have : X.length ≤ M.ch.length := by rw [hX]; exact this
                             simp only [List.length_append, List.length_singleton]; omega) (by rw [hno]; exact hnow) (by rw [hmo]; exact hmost) (fun x hx => ?_)).mono ?_
    · rw [hno]
      rcases List.mem_append.1 hx with hx | hx
      · exact hXt x hx
      · rw [List.mem_singleton.1 hx]; exact Nat.le_refl _
    · rintro e w' ⟨rfl, ⟨cv', R8, h8⟩, t8⟩
      rw [hKN] at R8
      refine ⟨rfl, ⟨cv', R8, fun g hg => ?_⟩, t7.out t8 (fun j hj => ?_)⟩
      · rcases h8 g hg with h | h
        · exact hnb g h
        · have := t7.size
          exact .inr (by omega)
      · rcases hj with rfl | hj
        · exact .inl (.inl rfl)
        · rcases hnb j hj with h | h
          · exact .inl (.inr h)
          · exact .inr h
  have hC : ∀ w1, Calls Try.prog 57 #[.string k] w1 fun e w' => e = .returned (.string k) ∧ Below w1.heap.size w1 w' := fun w1 => sClone_is k (by omega) w1
  have hbd : Below w.heap.size w w.drew := (Below.refl _ _).drew
  obtain ⟨k1, k2, _⟩ := cells w.drew (tB _ hbd)
  have hk0 : w.drew.cell? ⟨p, 1, none⟩ = some cv ∧ w.drew.cell? ⟨p, 2, none⟩ = some (.int .i64 (M.now : Int)) := ⟨k1, k2⟩
  have HCL := hid (fun w1 (hb : Below w.heap.size w w1) => (⟨(cells _ (tB _ hb)).1, (cells _ (tB _ hb)).2.1⟩ : w1.cell? ⟨p, 1, none⟩ = some cv ∧ w1.cell? ⟨p, 2, none⟩ = some (.int .i64 (M.now : Int))))
  obtain ⟨A, cp, hcv, hcp⟩ := R.ch.rd.form
  subst hcv
  have HBD := hid hbd
  clear R hKN hX hXt hM1 hno hmo hold hwf cells tB hT hcn k1 k2 hbd
  go_enter Try.func55, Try.ntmps55
  go_wp2_with fail
  have k1 := hk0.1
  have k2 := hk0.2
  go_region_law (first
    | (go_simp; go_at_call 57; refine (hC _).mono ?_; rintro e w1 ⟨rfl, b1⟩; have hb1 := hid (HBD.out.trans (b1.mono HBD.out.size)); obtain ⟨g1, g2⟩ := HCL.out w1 hb1.out; obtain ⟨v6, w6, A6, n6, k6, hv6, hrun6, ⟨a1, a2⟩, ⟨c61, c62⟩, fz6, HF6⟩ := APP w1 hb1; subst hv6)
    | (refine step_run_app rfl (.tmp 10) (.tmp 19) 38 rfl _ _ (.slice A6 n6 k6) w6 rfl rfl hrun6 ?_))
  all_goals go_wp2_with (go_at_call 33; refine HF6.out.mono ?_; rintro e w8 ⟨rfl, h8⟩)
  all_goals go_end0
  all_goals exact ⟨rfl, h8⟩
end Go.Proofs.Ytcohpgahffbnlaa
