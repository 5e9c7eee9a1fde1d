/-
  The late changes, from the last one backward: what late's iterator hands over. Conditions: those that each theorem names.
-/
import Derived.Test.YtcohpgahffbnlaaOm2
import Derived.Sort.BigQuietIn
namespace Go.Icz
open Go.RowKit
/-- All cells stay. -/
def Cs (w w' : World) : Prop := ∀ (k : Nat) (cs : Array Value) (t : TypeId) (z : Nat × Nat), w.heap[k]? = some (Obj.cells cs t z) → w'.heap[k]? = some (Obj.cells cs t z)
theorem Cs.refl (w : World) : Cs w w := fun _ _ _ _ h => h
theorem Cs.kept {n : Nat} {a b c : World} (h : Cs a b) (k : Kept n b c) : Cs a c := fun j cs t z hj => k.cells j cs t z (h j cs t z hj)
theorem Cs.tch {a b c : World} (h : Cs a b) (t : Tch (fun k => a.heap.size ≤ k) b c) : Cs a c := fun j cs ty z hj => by
  have hb := h j cs ty z hj
  exact (t.block j (Array.getElem?_eq_some_iff.1 hb).1 (by have := (Array.getElem?_eq_some_iff.1 hj).1; omega)).trans hb
theorem Cs.cell {w w' : World} (h : Cs w w') {p : Addr} {v : Value} (hv : w.cell? p = some v) : w'.cell? p = some v := by
  have hb : w'.heap[p.block]? = w.heap[p.block]? := by
    unfold World.cell? at hv
    cases ho : w.heap[p.block]? with
    | none => simp [ho] at hv
    | some o =>
      cases o with
      | cells cs t z => exact h _ _ _ _ ho
      | _ => simp [ho] at hv
  rw [show w'.cell? p = w.cell? p by unfold World.cell?; rw [hb]]
  exact hv
theorem tch_drewN (S : Nat → Prop) (w : World) (n : Nat) : Tch S w (w.drewN n) := ⟨rfl, rfl, rfl, Nat.le_refl _, fun _ _ _ => rfl⟩
theorem kept_drewN (n₁ : Nat) (w : World) (n : Nat) : Kept n₁ w (w.drewN n) := ⟨rfl, rfl, rfl, Nat.le_refl _, fun _ _ _ _ h => h, fun _ _ _ => rfl⟩
theorem take_stop {α : Type} {p : α → Bool} {l r : List α} {x : α} (h : ∀ y ∈ l, p y = true) (hx : p x = false) : (l ++ x :: r).takeWhile p = l := by
  induction l with
  | nil => rw [List.nil_append, List.takeWhile_cons, hx]; rfl
  | cons y t ih => rw [List.cons_append, List.takeWhile_cons, if_pos (h y (by simp)), ih (fun z hz => h z (by simp [hz]))]
theorem take_on {α : Type} {p : α → Bool} {l r : List α} {x : α} (h : ∀ y ∈ l, p y = true) (hx : p x = true) : (l ++ x :: r).takeWhile p = l ++ x :: r.takeWhile p := by
  induction l with
  | nil => rw [List.nil_append, List.takeWhile_cons, hx]; rfl
  | cons y t ih => rw [List.cons_append, List.takeWhile_cons, if_pos (h y (by simp)), ih (fun z hz => h z (by simp [hz]))]; rfl
theorem take_all {α : Type} {p : α → Bool} {l : List α} (h : ∀ y ∈ l, p y = true) : l.takeWhile p = l := by
  induction l with
  | nil => rfl
  | cons y t ih => rw [List.takeWhile_cons, if_pos (h y (by simp)), ih (fun z hz => h z (by simp [hz]))]
end Go.Icz
namespace Go.Proofs.Ytcohpgahffbnlaa
open Go.RowKit Go.Icz Go.Maps Go.ChangeMaps Go.MapKept Go.Shelf
attribute [local go_sem] Oper.semAt_some
set_option maxRecDepth 100000
set_option maxHeartbeats 4000000
theorem late1_gives (w0 : World) (bx p bO : Nat) (cv : Value) (X : List Chg) (M : SM) (hb : w0.cell? ⟨bx, 0, none⟩ = some (.pointer (some ⟨p, 0, none⟩))) (hbl : bx < w0.heap.size) (hp : w0.heap[p]? = some (.cells (roR M bO cv) 42 (0, 0))) (hr : KC.Rd w0 cv X) (hlen : X.length ≤ 4194304)
    (hnow : M.now ≤ 1099511627776) (hlag : M.lag ≤ 100) :
    Gives Try.prog 68 #[.pointer (some ⟨bx, 0, none⟩)] (fun x : Chg => #[chV x]) (X.reverse.takeWhile (lateB M)) w0 := by
  intro r J Jx W hW hJ hJx hY h0
  refine (callsIn_wide (n := 5)).1 ?_
  refine callsIn_of_wp_marks Try.func68 rfl trivial ?_ rfl
  have hWb : W.cell? ⟨bx, 0, none⟩ = some (.pointer (some ⟨p, 0, none⟩)) := (hW.cell (p := ⟨bx, 0, none⟩) hbl).trans hb
  have hWp : W.heap[p]? = some (.cells (roR M bO cv) 42 (0, 0)) := (hW.block p (row_lt hp)).trans hp
  have hWr : KC.Rd W cv X := hr.below hW
  have p1 : W.cell? ⟨p, 1, none⟩ = some cv := held_cell hWp rfl
  obtain ⟨A, c, rfl, hc⟩ := hWr.form
  have hbk : ∀ w1, CallsIn Fence.wide 4 Try.prog 69 #[.slice A X.length c] w1 fun e w' => e = .returned (.func (.func 75) #[] #[.pointer (some ⟨w1.heap.size, 0, none⟩)]) ∧ w' = w1.alloc (.cells #[.slice A X.length c] 38) := fun w1 => callsIn_wide.2 (back_is A X.length c w1)
  have hfB : Fence.wide.fn 69 := trivial
  have hbl2 : bx < W.heap.size := Nat.lt_of_lt_of_le hbl hW.size
  have hpl : p < W.heap.size := row_lt hWp
  clear hr hb hp hbl hW
  simp only [Try.ntmps68, List.size_toArray, List.length_cons, List.length_nil, Nat.reduceAdd, Nat.reduceSub, Array.replicate_succ, Array.replicate_zero, List.push_toArray, List.append_toArray, List.nil_append, List.cons_append]
  gi_wp2_with (gi_at_call 69; refine (hbk _).mono ?_; rintro e w' ⟨rfl, rfl⟩)
  obtain ⟨w1, hw1⟩ : ∃ w1, w1 = (W.alloc (.cells #[.func (.yield r) #[] #[]] 110)).alloc (.cells #[.slice A X.length c] 38) := ⟨_, rfl⟩
  have hs1 : w1.heap.size = W.heap.size + 2 := by rw [hw1]; simp
  have b01 : Below W.heap.size W w1 := by rw [hw1]; exact ((Below.refl _ W).alloc (Nat.le_refl _) _).alloc (by simp) _
  have hbox : w1.cell? ⟨W.heap.size, 0, none⟩ = some (.func (.yield r) #[] #[]) := by
    rw [hw1]
    exact held_cell (i := 0) (row_alloc (heap_alloc_new W _) _) rfl
  have hbx1 : w1.cell? ⟨bx, 0, none⟩ = some (.pointer (some ⟨p, 0, none⟩)) := (b01.cell (p := ⟨bx, 0, none⟩) hbl2).trans hWb
  have hp1 : w1.heap[p]? = some (.cells (roR M bO (.slice A X.length c)) 42 (0, 0)) := (b01.block p hpl).trans hWp
  have hp2 : w1.cell? ⟨p, 2, none⟩ = some (.int .i64 (M.now : Int)) := held_cell hp1 rfl
  have hp3 : w1.cell? ⟨p, 3, none⟩ = some (.int .i64 (M.lag : Int)) := held_cell hp1 rfl
  have hsb : w1.cell? ⟨W.heap.size + 1, 0, none⟩ = some (.slice A X.length c) := by
    rw [hw1]
    have := held_cell (i := 0) (heap_alloc_new (W.alloc (.cells #[.func (.yield r) #[] #[]] 110)) (.cells #[.slice A X.length c] 38)) rfl
    rwa [World.size_alloc] at this
  have hseq := back1_gives w1 (W.heap.size + 1) (.slice A X.length c) X hsb (by omega) (hWr.below b01) hlen
  have HsumM : Hid (∀ (pre : List (Nat × Chg)) (x : Nat × Chg) (rest : List (Nat × Chg)), bkFrom X X.length = pre ++ x :: rest → X.reverse = pre.map (·.2) ++ x.2 :: rest.map (·.2)) := hid (fun pre x rest h => by
    have h1 := bk_snd X X.length (Nat.le_refl _)
    rw [h, List.take_length] at h1
    rw [← h1]
    simp)
  have HsumE : Hid ((bkFrom X X.length).map (·.2) = X.reverse) := hid (by rw [bk_snd X X.length (Nat.le_refl _), List.take_length])
  rw [← hw1]
  have HW1 := hid hw1
  clear hw1
  clear hWb hWp hWr p1 hbk hfB
  refine wp_rangeFunc (gf := 75) (lb := #[.pointer (some ⟨W.heap.size + 1, 0, none⟩)]) rfl (enters_of Try.func75 (by kernel_rfl) rfl) (fun _ => rfl) hseq
    (fun pre Wi => (∀ y ∈ pre, lateB M y.2 = true) ∧ J (pre.map (·.2)) Wi ∧ Cs w1 Wi) (fun Wi => J (X.reverse.takeWhile (lateB M)) Wi ∨ Jx Wi)
    (fun s a b h t => ⟨h.1, hJ (s.map (·.2)) a b h.2.1 (Tch.mono t (fun k hk => Nat.le_trans (by omega) hk)), h.2.2.tch t⟩)
    (fun a b h t => h.imp (fun h => hJ _ a b h (Tch.mono t (fun k hk => Nat.le_trans (by omega) hk))) (fun h => hJx a b h (Tch.mono t (fun k hk => Nat.le_trans (by omega) hk))))
    ⟨fun _ h => (by cases h), hJ _ _ _ h0 (tch_of_below b01), Cs.refl _⟩
    (fun x b => { tmps := #[.func (.yield r) #[] #[], .pointer (some ⟨bx, 0, none⟩), .pointer (some ⟨W.heap.size, 0, none⟩), undef, .pointer (some ⟨b, 0, none⟩), .pointer (some ⟨p, 0, none⟩), .pointer (some ⟨p, 0, none⟩), .pointer (some ⟨p, 1, none⟩), .slice A X.length c, .func (.func 75) #[] #[.pointer (some ⟨W.heap.size + 1, 0, none⟩)], .int .i64 (x.1 : Int), chV x.2, undef, undef, undef, undef, undef, undef, undef, undef, undef, undef, undef, undef, undef, undef, undef, undef, undef, undef], defers := [] })
    (fun x => .cells #[.int .i64 (x.2.t : Int), .string x.2.k, .bool x.2.c] 92) ?assign ?body ?done ?stop
  case assign =>
    intro l x Wi K _ hK
    unfold chV at hK ⊢
    gi_wp2
    exact hK
  case body =>
    rintro l pre x rest b Wi hx hb1 hb2 hbo ⟨hlt, hj, hcs⟩
    have e1 := hcs.cell hbox
    have e2 := hcs.cell hbx1
    have e3 := hcs.cell hp2
    have e4 := hcs.cell hp3
    have f0 : Wi.cell? ⟨b, 0, none⟩ = some (.int .i64 (x.2.t : Int)) := held_cell hbo rfl
    have f1 : Wi.cell? ⟨b, 1, none⟩ = some (.string x.2.k) := held_cell hbo rfl
    have f2 : Wi.cell? ⟨b, 2, none⟩ = some (.bool x.2.c) := held_cell hbo rfl
    have HX := hid (HsumM.out pre x rest hx)
    have HJ := hid hj
    have HC := hid hcs
    have HL := hid hlt
    clear hx hj hcs hlt hseq
    cases hl : lateB M x.2 with
    | false =>
      have hd : decide ((x.2.t : Int) ≤ (M.now : Int) - (M.lag : Int)) = true := by
        unfold lateB at hl
        have := of_decide_eq_false hl
        exact decide_eq_true (by omega)
      have HR : Hid (∀ n, J (X.reverse.takeWhile (lateB M)) (Wi.drewN n)) := hid (fun n => by
        rw [HX.out, take_stop (fun y hy => by obtain ⟨z, hz, rfl⟩ := List.mem_map.1 hy; exact HL.out z hz) hl]
        exact hJ _ _ _ HJ.out (tch_drewN _ _ _))
      gi_wp2
      refine wpIn_round_reads (m := 15) rfl (by kernel_rfl) (by kernel_rfl) (by kernel_rfl) ?_
      simp only [List.take_succ_cons, List.take_zero, List.drop_succ_cons, List.drop_zero]
      repeat (gi_big_quiet_step (fail))
      refine wpQuietIn_nil ?_
      rintro _ ⟨nq, rfl⟩
      gi_wp2
      refine ⟨fun _ h => (by cases h), ?_⟩
      gi_wp2
      exact ⟨kept_drewN _ _ _, .inl (HR.out nq)⟩
    | true =>
      have hd : decide ((x.2.t : Int) ≤ (M.now : Int) - (M.lag : Int)) = false := by
        unfold lateB at hl
        have := of_decide_eq_true hl
        exact decide_eq_false (by omega)
      have HXL : Hid (X.reverse.takeWhile (lateB M) = pre.map (·.2) ++ x.2 :: (rest.map (·.2)).takeWhile (lateB M)) := hid (by
        rw [HX.out, take_on (fun y hy => by obtain ⟨z, hz, rfl⟩ := List.mem_map.1 hy; exact HL.out z hz) hl])
      have HY := hid (fun n => yield_any (m' := 4) (hY _ _ _ (Wi.drewN n) HXL.out (hJ _ _ _ HJ.out (tch_drewN _ _ _))))
      clear hY
      gi_wp2
      refine wpIn_round_reads (m := 15) rfl (by kernel_rfl) (by kernel_rfl) (by kernel_rfl) ?_
      simp only [List.take_succ_cons, List.take_zero, List.drop_succ_cons, List.drop_zero]
      repeat (gi_big_quiet_step (fail))
      refine wpQuietIn_nil ?_
      rintro _ ⟨nq, rfl⟩
      obtain ⟨fn, tmps, assign, body, hy, hR⟩ := HY.out nq
      try dsimp only at hy
      unfold chV at hy
      gi_wp2
      refine hR.mono ?_
      rintro e W3 (⟨rfl, hJ3, hk3⟩ | ⟨rfl, hJx3, hk3⟩)
      · have hJ4 : J (pre.map (fun x => x.2) ++ [x.2]) W3 := hJ3
        have HK3 := hid hk3
        clear hk3 hJ3
        gi_wp2
        exact ⟨(kept_drewN _ _ _).trans (HK3.out.mono (by omega)), fun y z hy => by
          rcases hy with hy | rfl
          · exact HL.out _ hy
          · exact hl, hJ4, (HC.out.kept (kept_drewN 0 _ _)).kept HK3.out⟩
      · have HK3 := hid hk3
        clear hk3
        gi_wp2
        exact ⟨(kept_drewN _ _ _).trans (HK3.out.mono (by omega)), .inr hJx3⟩
  case done =>
    rintro D Wi hD ⟨hlt, hj, _⟩ hK
    have e : X.reverse.takeWhile (lateB M) = (bkFrom X X.length).map (·.2) := by
      rw [HsumE.out]
      exact take_all (fun y hy => by rw [← HsumE.out] at hy; obtain ⟨z, hz, rfl⟩ := List.mem_map.1 hy; exact hlt z hz)
    have HJ := hid (hJ _ _ _ hj (tch_putObj (.deferred none) (show W.heap.size ≤ D by omega)))
    rw [← e] at HJ
    clear hseq hj e
    gi_wp2
    refine ⟨by simp, .inl ⟨_, _, rfl, run_takeDeferred hK, ?_⟩⟩
    exact ⟨_, results_none rfl _ _ _, ⟨_, rfl⟩, .inl HJ.out⟩
  case stop =>
    rintro D Wi hD hr hK
    have HJ : Hid (J (X.reverse.takeWhile (lateB M)) (Wi.putObj D (.deferred none)) ∨ Jx (Wi.putObj D (.deferred none))) := hid (hr.imp (fun h => hJ _ _ _ h (tch_putObj _ (show W.heap.size ≤ D by omega))) (fun h => hJx _ _ h (tch_putObj _ (show W.heap.size ≤ D by omega))))
    clear hseq hr
    gi_wp2
    refine ⟨by simp, .inl ⟨_, _, rfl, run_takeDeferred hK, ?_⟩⟩
    exact ⟨_, results_none rfl _ _ _, ⟨_, rfl⟩, HJ.out⟩
end Go.Proofs.Ytcohpgahffbnlaa
