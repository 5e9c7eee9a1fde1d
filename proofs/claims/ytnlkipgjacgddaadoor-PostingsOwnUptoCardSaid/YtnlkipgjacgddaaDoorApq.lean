/-
  slices.AppendSeq onto a row of numbers that the caller owns: what stood in it, and behind it what the iterator gave. Conditions: those that each theorem names.
-/
import Derived.Shelf.SlIterI.Collect
namespace Go.Proofs
open Go.RowKit Go.Maps Go.Sort Go.Shelf
variable {P : Program} {ρ : Ren}
/-- The loop's record, where the slice s came in. -/
def apqRec (ρ : Ren) (fn : FuncId) (s sv : Value) (Bs D : Nat) (st : LoopState) (pend : Option Code) : Loop :=
  { state := st, pending := pend, fn, tmps := #[s, sv, .pointer (some ⟨Bs, 0, none⟩), undef, .slice none 0 0, undef, sv, undef, undef, undef, undef, undef, undef], params := #[7], assign := AnyZI.apAssign ρ, body := AnyZI.apBody ρ, defers := D }
/-- Between two rounds: the box holds a row from B on, of what stood there and what has come. -/
structure Apq (ρ : Ren) (B : Nat) (pre : List Int) (w0 : World) (fn : FuncId) (s sv : Value) (Bs l D : Nat) (ss : List Int) (W : World) : Prop where
  box : ∃ v, W.heap[Bs]? = some (.cells #[v] (ρ.t 24) (0, 0)) ∧ W.ownsRow B (ρ.t 26) 1 v (pre ++ ss).length ((pre ++ ss).map encZ)
  lp : W.heap[l]? = some (.loop (apqRec ρ fn s sv Bs D .ready none))
  dfr : W.heap[D]? = some (.deferred (some []))
  below : Below B w0 W
theorem Apq.abides (ρ : Ren) (B : Nat) (pre : List Int) (w0 : World) (fn : FuncId) (s sv : Value) (Bs l D B' : Nat) (hB : B ≤ B') (hB0 : B ≤ w0.heap.size) : AbidesFrom B' (Apq ρ B pre w0 fn s sv Bs l D) := fun ss W W' row h hg hrow => by
  have hw : ∀ r, row = some r → ∃ o : Obj, W.heap[r]? = some o ∧ o.isWalk = true := fun r e => (hrow r e).2
  obtain ⟨v, hv, hr⟩ := h.box
  exact ⟨⟨v, (grownBy_keeps hg hw hv rfl).trans hv, ownsRow_abides_a hr hg hw⟩, (grownBy_keeps hg hw h.lp rfl).trans h.lp, (grownBy_keeps hg hw h.dfr rfl).trans h.dfr, h.below.grown hg (Nat.le_trans hB0 h.below.size) (fun k e => Nat.le_trans hB (hrow k e).1)⟩
set_option maxRecDepth 100000 in
set_option maxHeartbeats 4000000 in
/-- One more number comes. -/
theorem Apq.yield (L : SlLaysZI.n11 P ρ) (F : Fence) (m : Nat) (B : Nat) (pre : List Int) (w0 : World) (hB0 : B ≤ w0.heap.size) (fn : FuncId) (hfn : F.fn fn) (s sv : Value) (Bs l D : Nat) (hBl : Bs ≠ l) (hDl : D ≠ l) (hDB : D ≠ Bs) (hs : B ≤ Bs) (hl0 : B ≤ l)
    (N : Nat) (hN : pre.length + N ≤ 17592186044416) (ss : List Int) (x : Int) (W : World) (h : Apq ρ B pre w0 fn s sv Bs l D ss W) (hlen : ss.length < N) :
    YieldAt F m P l #[encZ x] W fun e W' => e = .returned (.bool true) ∧ Apq ρ B pre w0 fn s sv Bs l D (ss ++ [x]) W' ∧ KeepsWalks W W' := by
  have mixed := L.mixed; have t0 := L.t0; have a0 := L.a0; have z0 := L.z0; have v0 := L.v0; have t24 := L.t24; have a24 := L.a24; have z24 := L.z24; have v24 := L.v24; have t26 := L.t26; have a26 := L.a26; have z26 := L.z26; have v26 := L.v26; have t28 := L.t28; have a28 := L.a28; have z28 := L.z28; have v28 := L.v28
  have hne : ρ.t 24 ≠ ρ.t 26 := fun e => by have h := L.t24; rw [e, L.t26] at h; cases h
  have u0 := run_underlying L.t0; have u24 := run_underlying L.t24; have u26 := run_underlying L.t26; have u28 := run_underlying L.t28
  obtain ⟨i0, hi, hz0, hz1, hz2⟩ := info_parts L.i26
  obtain ⟨v, hv, hrow⟩ := h.box
  have hln : (pre ++ ss).length + 1 ≤ 17592186044416 := by rw [List.length_append]; omega
  obtain ⟨q, hq⟩ : ∃ q, q = pre ++ ss := ⟨_, rfl⟩
  rw [← hq] at hrow hln
  have hqq : pre ++ (ss ++ [x]) = q ++ [x] := by rw [hq, List.append_assoc]
  clear hq
  refine ⟨fn, #[s, sv, .pointer (some ⟨Bs, 0, none⟩), undef, .slice none 0 0, undef, sv, encZ x, undef, undef, undef, undef, undef], AnyZI.apAssign ρ, AnyZI.apBody ρ, by simpa [apqRec] using run_yield (P := P) (args := #[encZ x]) h.lp rfl, roundIn_of_wpIn hfn ?_⟩
  have hl : l < W.heap.size := (Array.getElem?_eq_some_iff.1 h.lp).1
  have hbr := run_beginRound (P := P) h.lp rfl
  obtain ⟨W2, hW2⟩ : ∃ W2, W.putObj l (.loop { apqRec ρ fn s sv Bs D .ready none with state := .busy }) = W2 := ⟨_, rfl⟩
  rw [hW2] at hbr
  have hg2 : W.grownBy W2 (some l) := by rw [← hW2]; exact grownBy_putObj_a _ _ _
  have hk2 : KeepsWalks W W2 := by rw [← hW2]; exact KeepsWalks.putObj _ h.lp rfl
  have hv2 : W2.heap[Bs]? = some (.cells #[v] (ρ.t 24) (0, 0)) := by rw [← hW2]; exact (World.putObj_heap_other hBl).trans hv
  have hK2 : W2.heap[D]? = some (.deferred (some [])) := by rw [← hW2]; exact (World.putObj_heap_other hDl).trans h.dfr
  have hL2 : W2.heap[l]? = some (.loop { apqRec ρ fn s sv Bs D .ready none with state := .busy }) := by rw [← hW2]; exact World.putObj_heap_same hl
  have hrow2 : W2.ownsRow B (ρ.t 26) 1 v q.length (q.map encZ) := hrow.kept hg2 (ownsRow_ne_a hrow h.lp (fun cur e => by first | cases e | exact hne (Obj.cells.inj e).2.1))
  have hb2 : Below B w0 W2 := h.below.grown hg2 (Nat.le_trans hB0 h.below.size) (fun k e => by cases e; exact hl0)
  obtain ⟨hc2, hf2⟩ := cell_of_box_a hv2
  have hBlt : Bs < W2.heap.size := (Array.getElem?_eq_some_iff.1 hv2).1
  have hl2 : l < W2.heap.size := (Array.getElem?_eq_some_iff.1 hL2).1
  have hDlt : D < W2.heap.size := (Array.getElem?_eq_some_iff.1 hK2).1
  have far : ∀ {j : Nat} {o : Obj}, W2.heap[j]? = some o → (∀ cur, o ≠ .cells cur (ρ.t 26) (0, 0)) → some j ≠ v.ownBlock := fun hj hno => by
    rcases ownsRow_ne_a hrow2 hj hno with e | e
    · rw [e]; simp
    · exact fun e' => e e'.symm
  clear hW2
  unfold AnyZI.apAssign
  gi_wp2_with gi_round_op_a
  unfold AnyZI.apBody
  gi_wp2_with (first
    | (gi_at_builtin; refine wpListIn_append_own _ rfl _ _ (ρ.t 24) rfl B (ρ.t 26) i0 (.int .i64 0) 1 8 L.t24 hi hz0 hz1 hz2 rfl (by decide) _ _ _ rfl (hrow2.alloc _) ⟨W2.heap.size, 0, none⟩ 1 1 [encZ x] rfl rfl (cell_one_new _ _ _) (by simp [Value.oneCell', encZ]) (by unfold maxLen; omega) (by omega) (by have := hb2.size; simp; omega) ?_; intro v' w3 hown' hg3 hnil3
       have hv3 : w3.heap[Bs]? = some (.cells #[v] (ρ.t 24) (0, 0)) := (hg3.block Bs (by simp; omega) (far hv2 (fun cur e => by first | cases e | exact hne (Obj.cells.inj e).2.1))).trans ((Below.heap_alloc _ _ Bs hBlt).trans hv2)
       obtain ⟨hc3, hf3⟩ := cell_of_box_a hv3
       obtain ⟨g', cap', cur', rfl, hbase', hgb', hr1, hr2, hr3, hr4⟩ : ∃ g' cap' cur', v' = .slice (some ⟨g', 0, none⟩) (q.length + 1) cap' ∧ B ≤ g' ∧ w3.heap[g']? = some (.cells cur' (ρ.t 26) (0, 0)) ∧ q.length + 1 ≤ cap' ∧ cap' ≤ maxLen ∧ cur'.size = cap' * 1 ∧ cur'.toList.take ((q.length + 1) * 1) = q.map encZ ++ [encZ x] := by
         rcases hown'.2 with ⟨_, h0⟩ | h'
         · exact absurd h0 (by omega)
         · exact h'
       go_frame)
    | gi_round_op_a)
  have hg3' : (W2.alloc (.cells #[encZ x] (ρ.t 26))).grownBy w3 v.ownBlock := hg3
  have hL3 : w3.heap[l]? = some (.loop { apqRec ρ fn s sv Bs D .ready none with state := .busy }) := (hg3'.block l (by simp; omega) (far hL2 (fun cur e => by first | cases e | exact hne (Obj.cells.inj e).2.1))).trans ((Below.heap_alloc _ _ l hl2).trans hL2)
  have hK3 : w3.heap[D]? = some (.deferred (some [])) := (hg3'.block D (by simp; omega) (far hK2 (fun cur e => by first | cases e | exact hne (Obj.cells.inj e).2.1))).trans ((Below.heap_alloc _ _ D hDlt).trans hK2)
  obtain ⟨w4, hw4⟩ : ∃ w4, w3.setCell ⟨Bs, 0, none⟩ (.slice (some ⟨g', 0, none⟩) (q.length + 1) cap') = w4 := ⟨_, rfl⟩
  rw [hw4]
  have hg4 : w3.grownBy w4 (some Bs) := by rw [← hw4]; exact grownBy_setCell0_a _ _ _
  have hv4 : w4.heap[Bs]? = some (.cells #[.slice (some ⟨g', 0, none⟩) (q.length + 1) cap'] (ρ.t 24) (0, 0)) := by rw [← hw4]; exact heap_setCell_box_a _ hv3
  have hL4 : w4.heap[l]? = some (.loop { apqRec ρ fn s sv Bs D .ready none with state := .busy }) := (hg4.block l (Array.getElem?_eq_some_iff.1 hL3).1 (fun e => hBl (by cases e; rfl))).trans hL3
  have hK4 : w4.heap[D]? = some (.deferred (some [])) := (hg4.block D (Array.getElem?_eq_some_iff.1 hK3).1 (fun e => hDB (by cases e; rfl))).trans hK3
  have hrow4 := hown'.kept hg4 (ownsRow_ne_a hown' hv3 (fun cur e => by first | cases e | exact hne (Obj.cells.inj e).2.1))
  have hl4 : l < w4.heap.size := (Array.getElem?_eq_some_iff.1 hL4).1
  have hb3 : Below B w0 w3 := (hb2.alloc (by have := hb2.size; omega) _).grown hg3' (by have := hb2.size; simp; omega) (fun k e => (hrow2.lt k e).1)
  have hb4 : Below B w0 w4 := hb3.grown hg4 (Nat.le_trans hB0 hb3.size) (fun k e => by cases e; exact hs)
  have hk4 : KeepsWalks W w4 := ((hk2.trans (KeepsWalks.alloc _ _)).trans (KeepsWalks.of_grownBy hg3' (ownsRow_not_walk_a (hrow2.alloc _)))).trans (by rw [← hw4]; exact KeepsWalks.setCell _ _ _)
  clear hw4
  have hlast := hrow4.kept (grownBy_putObj_a w4 l (.loop { { apqRec ρ fn s sv Bs D .ready none with state := .busy } with state := if (none : Option Code).isNone then .ready else .done, pending := none })) (ownsRow_ne_a hrow4 hL4 (fun cur e => by first | cases e | exact hne (Obj.cells.inj e).2.1))
  refine ⟨_, _, run_endRound none hL4, rfl, ⟨⟨_, (World.putObj_heap_other hBl).trans hv4, ?_⟩, World.putObj_heap_same hl4, (World.putObj_heap_other hDl).trans hK4, hb4.grown (grownBy_putObj_a _ _ _) (Nat.le_trans hB0 hb4.size) (fun k e => by cases e; exact hl0)⟩, hk4.trans (KeepsWalks.putObj _ hL4 rfl)⟩
  rw [hqq]
  simpa using hlast
set_option maxRecDepth 100000 in
set_option maxHeartbeats 4000000 in
theorem appendSeq_onto (L : SlLaysZI.n11 P ρ) (F : Fence) (n : Nat) (h11 : F.fn (ρ.f 11)) (hro : F.round = none) (hn : 2 ≤ n) (g : Nat) (lb : Array Value) (hFg : F.fn g) (eg : ∀ args w, (callFunc g args).run P w = .ok (.enter g args) w)
    (S : List Int → Prop) (N : Nat) (B : Nat) (pre : List Int) (s : Value) (w : World) (hB : B ≤ w.heap.size) (hN : pre.length + N ≤ 17592186044416) (hrow : w.ownsRow B (ρ.t 26) 1 s pre.length (pre.map encZ)) (hseq : ∀ w', Below w.heap.size w w' → SeqGives F (n - 1) P g lb encZ S N w') :
    CallsIn F n P (ρ.f 11) #[s, .func (.func g) #[] lb] w fun e w' => ∃ (v : Value) (ss : List Int), e = .returned v ∧ S ss ∧ w'.ownsRow B (ρ.t 26) 1 v (pre ++ ss).length ((pre ++ ss).map encZ) ∧ Below B w w' := by
  have h1 : 1 ≤ n := by omega
  have mixed := L.mixed; have t0 := L.t0; have a0 := L.a0; have z0 := L.z0; have v0 := L.v0; have t24 := L.t24; have a24 := L.a24; have z24 := L.z24; have v24 := L.v24; have t26 := L.t26; have a26 := L.a26; have z26 := L.z26; have v26 := L.v26; have t28 := L.t28; have a28 := L.a28; have z28 := L.z28; have v28 := L.v28
  have hne : ρ.t 24 ≠ ρ.t 26 := fun e => by have h := L.t24; rw [e, L.t26] at h; cases h
  have u0 := run_underlying L.t0; have u24 := run_underlying L.t24; have u26 := run_underlying L.t26; have u28 := run_underlying L.t28
  obtain ⟨_, _, FG⟩ := L.f11
  obtain ⟨A0, n0, c0, hs0⟩ : ∃ A0 n0 c0, s = .slice A0 n0 c0 := by
    rcases hrow.2 with ⟨e, _⟩ | ⟨g, cap, cur, e, _⟩
    · exact ⟨none, 0, 0, e⟩
    · exact ⟨_, _, _, e⟩
  subst hs0
  refine callsIn_of_wp_marks FG rfl h11 ?_ hro
  simp only [SlBodyZ.n11_ntmps ρ, List.size_toArray, List.length_cons, List.length_nil, Nat.reduceAdd, Nat.reduceSub, Array.replicate_succ, Array.replicate_zero, List.push_toArray, List.append_toArray, List.nil_append, List.cons_append]
  gi_wp2
  refine wpIn_rangeFunc ?_
  intro fn hfn
  rw [hro]
  obtain ⟨W0, hW0⟩ : ∃ W0, w.alloc (.cells #[.slice A0 n0 c0] (ρ.t 24)) = W0 := ⟨_, rfl⟩
  have hs0 : W0.heap.size = w.heap.size + 1 := by rw [← hW0]; simp
  have hv0 : W0.heap[w.heap.size]? = some (.cells #[.slice A0 n0 c0] (ρ.t 24) (0, 0)) := by rw [← hW0]; exact World.alloc_heap_new w _
  have hb0 : Below w.heap.size w W0 := by rw [← hW0]; exact (Below.refl _ w).alloc (Nat.le_refl _) _
  rw [hW0]
  obtain ⟨W1, hW1⟩ : ∃ W1, (W0.alloc (.deferred (some []))).alloc (.loop (apqRec ρ fn (.slice A0 n0 c0) (.func (.func g) #[] lb) w.heap.size W0.heap.size .ready none)) = W1 := ⟨_, rfl⟩
  have hold : ∀ k, k < W0.heap.size → W1.heap[k]? = W0.heap[k]? := fun k hk => by
    rw [← hW1]; exact (Below.heap_alloc _ _ k (by simp; omega)).trans (Below.heap_alloc _ _ k hk)
  have hb1 : Below w.heap.size w W1 := by rw [← hW1]; exact (hb0.alloc hb0.size _).alloc (by have := hb0.size; simp; omega) _
  have hs1 : W1.heap.size = W0.heap.size + 2 := by rw [← hW1]; simp
  have hrow1 : W1.ownsRow B (ρ.t 26) 1 (.slice A0 n0 c0) pre.length (pre.map encZ) := by
    rw [← hW1, ← hW0]
    exact ((hrow.alloc _).alloc _).alloc _
  have hM : Apq ρ B pre w fn (.slice A0 n0 c0) (.func (.func g) #[] lb) w.heap.size (W0.heap.size + 1) W0.heap.size [] W1 :=
    ⟨⟨_, (hold w.heap.size (by omega)).trans hv0, by rw [List.append_nil]; exact hrow1⟩,
     by rw [← hW1]; have := World.alloc_heap_new (W0.alloc (.deferred (some []))) (.loop (apqRec ρ fn (.slice A0 n0 c0) (.func (.func g) #[] lb) w.heap.size W0.heap.size .ready none)); rwa [World.size_alloc] at this,
     by rw [← hW1]; exact (Below.heap_alloc _ _ _ (by simp)).trans (World.alloc_heap_new W0 _), hb1.mono hB⟩
  clear hrow hrow1
  refine ⟨W0.heap.size + 1, [{ target := .collected W0.heap.size, args := #[] }], W1, { target := .fn (.func g) lb, args := #[.func (.yield (W0.heap.size + 1)) #[] #[]] }, W1, g,
    #[.func (.yield (W0.heap.size + 1)) #[] #[]] ++ lb, W1, ?_, ?_, ?_, ?_, fun _ => h1, ?_⟩
  · rw [← hW1]; exact run_enterLoop_outer _ _ _ _ _
  · simp [resolve, go_sem]
  · intro f' hf'; simp [Target.leads] at hf'; subst hf'; exact hFg
  · simp [invoke, go_sem, eg]
  · refine (hseq W1 hb1 (W0.heap.size + 1) (Apq ρ B pre w fn (.slice A0 n0 c0) (.func (.func g) #[] lb) w.heap.size (W0.heap.size + 1) W0.heap.size) W1 (Below.refl _ _) (Apq.abides ρ B pre w fn _ _ _ _ _ _ (Nat.le_trans hB hb1.size) hB)
      (fun p x W hJ hl => Apq.yield { L with } F (n - 1 - 1) B pre w hB fn hfn _ _ w.heap.size (W0.heap.size + 1) W0.heap.size (by omega) (by omega) (by omega) hB (by omega) N hN p x W hJ hl) hM).mono ?_
    rintro e W2 ⟨⟨v0, rfl⟩, ss, hS, h2⟩
    obtain ⟨v, hv, hrw⟩ := h2.box
    have hend := run_endLoop (P := P) h2.lp (by simp [apqRec])
    obtain ⟨W3, hW3⟩ : ∃ W3, W2.putObj (W0.heap.size + 1) (.loop { apqRec ρ fn (.slice A0 n0 c0) (.func (.func g) #[] lb) w.heap.size W0.heap.size .ready none with state := .exhausted }) = W3 := ⟨_, rfl⟩
    rw [hW3] at hend
    have hg3 : W2.grownBy W3 (some (W0.heap.size + 1)) := by rw [← hW3]; exact grownBy_putObj_a _ _ _
    have hv3 : W3.heap[w.heap.size]? = some (.cells #[v] (ρ.t 24) (0, 0)) := by rw [← hW3]; exact (World.putObj_heap_other (by omega)).trans hv
    have hK3 : W3.heap[W0.heap.size]? = some (.deferred (some [])) := by rw [← hW3]; exact (World.putObj_heap_other (by omega)).trans h2.dfr
    have hrow3 := hrw.kept hg3 (ownsRow_ne_a hrw h2.lp (fun cur e => by first | cases e | exact hne (Obj.cells.inj e).2.1))
    have hb3 : Below B w W3 := h2.below.grown hg3 (Nat.le_trans hB h2.below.size) (fun k e => by cases e; omega)
    obtain ⟨hc3, hf3⟩ := cell_of_box_a hv3
    obtain ⟨q, hq⟩ : ∃ q, q = pre ++ ss := ⟨_, rfl⟩
    rw [← hq] at hrow3
    have post : ∀ wx, W3.grownBy wx (some W0.heap.size) → wx.ownsRow B (ρ.t 26) 1 v (pre ++ ss).length ((pre ++ ss).map encZ) ∧ Below B w wx := fun wx hg => ⟨by rw [← hq]; exact hrow3.kept hg (ownsRow_ne_a hrow3 hK3 (fun cur e => by first | cases e | exact hne (Obj.cells.inj e).2.1)), hb3.grown hg (Nat.le_trans hB hb3.size) (fun k e => by cases e; omega)⟩
    clear hW3 hq hrow3 hrw h2 hv
    refine ⟨none, W3, hend, ?_⟩
    gi_wp2
    rw [← hs0]
    exact ⟨by simp, .inl ⟨_, _, rfl, run_takeDeferred hK3, ⟨_, results_tmp rfl _ _ _, v, ss, rfl, hS, (post _ (grownBy_putObj_a _ _ _)).1, (post _ (grownBy_putObj_a _ _ _)).2⟩⟩⟩
end Go.Proofs
