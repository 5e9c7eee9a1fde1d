/-
  The reference's Put. Conditions: those that each theorem names.
-/
import Derived.Test.YtcohpgahffbnlaaOpr
import Derived.Deep.RegionHeld3
namespace Go.Icz
open Go.RowKit
/-- An append leaves each row of another kind, and each other row of its own kind, as it is. -/
theorem Kd.step_appF {α : Type} {K : Kd α} {P : Program} {ops : Array Oper} {o : Oper} {a : Act} {Kn : Act → World → Prop} {Q : Exit → Act → World → Prop} {E : Prop} {w : World} (hgd : o.guard = none) (s x : Operand) (t : TypeId)
    (ho : o.op = .call { callee := .builtin .append, args := #[s, x], argTypes := #[t, t] }) (ht : P.underlying t = some (.slice K.e)) {zv : Value} {by' : Nat} (info : (P.info? K.e).map (fun i => (i.zero, i.size, i.bytes)) = some (some zv, K.z, by')) (hzs : zv.cells.size = K.z)
    (B : Nat) (v u : Value) (l m : List α) (hs : a.eval s = v) (hown : K.Own w B v l) (hx : a.eval x = u) (hr : K.Rd w u m)
    (hmax : l.length + m.length ≤ maxLen) (hlen : (l.length + m.length) * by' ≤ 140737488355328) (hB : B ≤ w.heap.size)
    (h : ∀ v' w', K.Own w' B v' (l ++ m) → Below B w w' → (∀ (g : Nat) (cs : Array Value) (t : TypeId), t ≠ K.e → w.heap[g]? = some (Obj.cells cs t (0, 0)) → w'.heap[g]? = some (Obj.cells cs t (0, 0))) → (∀ (g : Nat) (cs : Array Value), v.ownBlock ≠ some g → w.heap[g]? = some (Obj.cells cs K.e (0, 0)) → w'.heap[g]? = some (Obj.cells cs K.e (0, 0))) → Kn (a.put o.dst v') w') :
    if Region.wanted o (yielded ops a.tmps) = true then Oper.wp P o a w Kn Q else E := by
  obtain ⟨v', w', hrun, h1, h2⟩ := Kd.run_app t o.type ht info hzs B v u l m hown hr hmax hlen hB
  have fr : ∀ (g : Nat) (cs : Array Value) (t : TypeId), v.ownBlock ≠ some g → w.heap[g]? = some (Obj.cells cs t (0, 0)) → w'.heap[g]? = some (Obj.cells cs t (0, 0)) := fun g cs t hne hg => (h2.block g (row_lt hg) (fun e => hne e.symm)).trans hg
  refine step_run_app hgd s x t ho v u v' w' hs hx hrun (h v' w' h1 ((Below.refl B w).grown h2 hB (fun k hk => (hown.lt k hk).1)) (fun g cs t ht2 hg => fr g cs t (fun e => ?_) hg) (fun g cs hne hg => fr g cs _ hne hg))
  rcases hown.2 with ⟨hv, _⟩ | ⟨g', cap, cur, hv, _, hc, _⟩
  · rw [hv] at e; cases e
  · rw [hv] at e
    injection e with e
    have e' : g' = g := e
    rw [e', hg] at hc
    injection hc with hc
    injection hc with _ hc _
    exact ht2 hc
theorem own_keep {α : Type} {K : Kd α} {w w' : World} {B : Nat} {v : Value} {l : List α} {t0 : TypeId} (F : ∀ (g : Nat) (cs : Array Value) (t : TypeId), t ≠ t0 → w.heap[g]? = some (Obj.cells cs t (0, 0)) → w'.heap[g]? = some (Obj.cells cs t (0, 0))) (hne : K.e ≠ t0) (h : K.Own w B v l) : K.Own w' B v l := by
  refine ⟨h.1, ?_⟩
  rcases h.2 with h | ⟨g, cap, cur, hv, hb, hg, r⟩
  · exact .inl h
  · exact .inr ⟨g, cap, cur, hv, hb, F g cur K.e hne hg, r⟩
theorem at_new {W : World} {g : Nat} {cs : Array Value} {t : TypeId} (h : g = W.heap.size) : (W.alloc (.cells cs t)).heap[g]? = some (Obj.cells cs t (0, 0)) := by
  subst h
  exact heap_alloc_new W _
end Go.Icz
namespace Go.Proofs.Ytcohpgahffbnlaa
open Go.RowKit Go.Icz Go.Maps Go.ChangeMaps Go.MapKept
set_option maxRecDepth 100000
set_option maxHeartbeats 8000000
variable {w : World} {T : Nat → Prop} {r : Nat} {lv cv : Value} {xs : List OV} {M : SM} {c : Nat}
theorem RPut_no (h : Rf w T r lv cv xs M) (hwf : WfS M c) (k : ByteArray) (hk : k.size ≤ 9223372036854775807) {A1 : Option Addr} {C1 : Nat} {l : List Nat} (hlm : l.length ≤ 1125899906842624) (hno : okS M = false ∨ nameB k = false ∨ 1048576 < l.length ∨ (!(rfind M.L k).2 && decide (4096 ≤ M.L.length)) = true) :
    Calls Try.prog 17 #[.pointer (some ⟨r, 0, none⟩), .string k, .slice A1 l.length C1] w fun e w' => e = .returned (.int .i64 (rputM M k l).1) ∧ ∃ lv' cv' xs', Rf w' T r lv' cv' xs' (rputM M k l).2 ∧ Tch (· = r) w w' := by
  have hTr := h.tr
  have hFi := Find_is h k hwf.ln
  have hF := fun w1 => fine_is k w1 hk
  obtain ⟨A, cp, rfl, _⟩ := kro_at h.lo
  have HR : Hid (∀ w1 w2, Below w.heap.size w w1 → Tch (fun _ => False) w1 w2 → Rf w2 T r (.slice A xs.length cp) cv xs M ∧ w2.cell? ⟨r, 4, none⟩ = some (.slice A xs.length cp)) := hid (fun w1 w2 b t => by
    have R := (h.below b).far t (fun _ h => h.elim)
    exact ⟨R, held_cell R.r_ rfl⟩)
  have hC := fun w2 (R2 : Rf w2 T r (.slice A xs.length cp) cv xs M) => Rcall_is R2 hwf
  have HX := hid h.ob.1
  have rp : rputM M k l = if nameB k = false then (1, M) else if 1048576 < l.length then (6, M) else if !(rfind M.L k).2 && decide (4096 ≤ M.L.length) then (7, M) else (errS M, if okS M then rputA (askS M) k l else askS M) := rfl
  have tb : ∀ w1, Below w.heap.size w w1 → Tch (· = r) w w1 := fun w1 b => Tch.of_below b
  have hxl : xs.length ≤ 4096 := by have := hwf.ln; have := h.ob.1; omega
  rw [← h.ob.1] at rp hno
  cases hb : nameB k
  · rw [if_pos hb] at rp
    rw [rp]
    have HQ := hid (fun w1 (b : Below w.heap.size w w1) => h.below b)
    have HTB := hid tb
    by_cases h1 : 1 ≤ k.size
    · have hbg : begB k = false := by unfold nameB at hb; rw [decide_eq_true h1, Bool.true_and] at hb; exact hb
      rw [hbg] at hF
      obtain ⟨n1, n2, n3⟩ := nil_no h1
      generalize (rfind M.L k).1 = ix at *
      generalize (rfind M.L k).2 = iy at *
      clear h rp hb hwf hC h1 hbg hno HX tb hxl
      go_enter Try.func17, Try.ntmps17
      go_wp2_with (first
        | (go_at_call 29; refine hFi.mono ?_; rintro e w1 ⟨rfl, b1⟩; clear hFi)
        | (go_at_call 42; refine (hF _).mono ?_; rintro e w2 ⟨rfl, t2⟩; obtain ⟨R2, c4⟩ := HR.out _ _ b1 t2; clear hF HR))
      go_ret
      exact ⟨rfl, _, _, _, R2, (HTB.out _ b1).trans (t2.mono (fun _ h => h.elim))⟩
    · obtain ⟨n1, n2, n3⟩ := nil_yes h1
      generalize (rfind M.L k).1 = ix at *
      generalize (rfind M.L k).2 = iy at *
      clear h rp hb hwf hC h1 hno HX tb hF hxl HR
      go_enter Try.func17, Try.ntmps17
      go_wp2_with (first
        | (go_at_call 29; refine hFi.mono ?_; rintro e w1 ⟨rfl, b1⟩; clear hFi))
      go_ret
      exact ⟨rfl, _, _, _, HQ.out _ b1, HTB.out _ b1⟩
  · have hb2 : 1 ≤ k.size ∧ begB k = true := by unfold nameB at hb; rw [Bool.and_eq_true, decide_eq_true_eq] at hb; exact hb
    rw [hb2.2] at hF
    obtain ⟨n1, n2, n3⟩ := nil_no hb2.1
    rw [if_neg (by rw [hb]; decide)] at rp
    have HTB := hid tb
    by_cases hs : 1048576 < l.length
    · have d : decide (1048576 < (l.length : Int)) = true := decide_eq_true (by omega)
      rw [if_pos hs] at rp
      rw [rp]
      generalize (rfind M.L k).1 = ix at *
      generalize (rfind M.L k).2 = iy at *
      generalize l.length = nl at *
      clear h rp hb hb2 hwf hC hno HX tb hxl hs hlm
      go_enter Try.func17, Try.ntmps17
      go_wp2_with (first
        | (go_at_call 29; refine hFi.mono ?_; rintro e w1 ⟨rfl, b1⟩; clear hFi)
        | (go_at_call 42; refine (hF _).mono ?_; rintro e w2 ⟨rfl, t2⟩; obtain ⟨R2, c4⟩ := HR.out _ _ b1 t2; clear hF HR))
      go_ret
      exact ⟨rfl, _, _, _, R2, (HTB.out _ b1).trans (t2.mono (fun _ h => h.elim))⟩
    · have d : decide (1048576 < (l.length : Int)) = false := decide_eq_false (by omega)
      rw [if_neg hs] at rp
      cases hf : (!(rfind M.L k).2 && decide (4096 ≤ xs.length))
      · rw [hf, if_neg (by decide)] at rp
        have ho : okS M = false := by
          rcases hno with h0 | h0 | h0 | h0
          · exact h0
          · rw [hb] at h0; cases h0
          · exact absurd h0 hs
          · rw [hf] at h0; cases h0
        rw [ho] at hC rp
        rw [if_neg (by decide)] at rp
        rw [rp]
        generalize errS M = er at *
        generalize l.length = nl at *
        cases hy : (rfind M.L k).2
        · rw [hy, Bool.not_false, Bool.true_and] at hf
          have d2 : decide (4096 ≤ (xs.length : Int)) = false := decide_eq_false (by have := of_decide_eq_false hf; omega)
          rw [hy] at hFi
          generalize (rfind M.L k).1 = ix at *
          clear h rp hb hb2 hwf hno HX tb hxl hs hlm hf hy ho
          go_enter Try.func17, Try.ntmps17
          go_wp2_with (first
            | (go_at_call 29; refine hFi.mono ?_; rintro e w1 ⟨rfl, b1⟩; clear hFi)
            | (go_at_call 42; refine (hF _).mono ?_; rintro e w2 ⟨rfl, t2⟩; obtain ⟨R2, c4⟩ := HR.out _ _ b1 t2; clear hF HR)
            | (go_at_call 43; refine (hC _ R2).mono ?_; rintro e w3 ⟨rfl, R3, t3⟩; clear hC))
          go_ret
          exact ⟨rfl, _, _, _, R3, ((HTB.out _ b1).trans (t2.mono (fun _ h => h.elim))).trans t3⟩
        · rw [hy] at hFi
          generalize (rfind M.L k).1 = ix at *
          clear h rp hb hb2 hwf hno HX tb hxl hs hlm hf hy ho
          go_enter Try.func17, Try.ntmps17
          go_wp2_with (first
            | (go_at_call 29; refine hFi.mono ?_; rintro e w1 ⟨rfl, b1⟩; clear hFi)
            | (go_at_call 42; refine (hF _).mono ?_; rintro e w2 ⟨rfl, t2⟩; obtain ⟨R2, c4⟩ := HR.out _ _ b1 t2; clear hF HR)
            | (go_at_call 43; refine (hC _ R2).mono ?_; rintro e w3 ⟨rfl, R3, t3⟩; clear hC))
          go_ret
          exact ⟨rfl, _, _, _, R3, ((HTB.out _ b1).trans (t2.mono (fun _ h => h.elim))).trans t3⟩
      · rw [hf, if_pos rfl] at rp
        rw [rp]
        rw [Bool.and_eq_true, Bool.not_eq_true', decide_eq_true_eq] at hf
        have d2 : decide (4096 ≤ (xs.length : Int)) = true := decide_eq_true (by omega)
        rw [hf.1] at hFi
        generalize (rfind M.L k).1 = ix at *
        generalize l.length = nl at *
        clear h rp hb hb2 hwf hno HX tb hxl hs hlm hf hC
        go_enter Try.func17, Try.ntmps17
        go_wp2_with (first
          | (go_at_call 29; refine hFi.mono ?_; rintro e w1 ⟨rfl, b1⟩; clear hFi)
          | (go_at_call 42; refine (hF _).mono ?_; rintro e w2 ⟨rfl, t2⟩; obtain ⟨R2, c4⟩ := HR.out _ _ b1 t2; clear hF HR))
        go_ret
        exact ⟨rfl, _, _, _, R2, (HTB.out _ b1).trans (t2.mono (fun _ h => h.elim))⟩
end Go.Proofs.Ytcohpgahffbnlaa
