/-
  A range over a function, a round of which may make any number of boxes. Conditions: those that each theorem names.
-/
import Derived.Test.YthabkfmcbihbfaaDoorOlp
namespace Go.Icz
open Go.RowKit
/-- As wp_rangeFunc; a round makes what G makes. -/
theorem wp_rangeFuncG {α : Type} {P : Program} {g : Operand} {ps : Array Tmp} {assign body : Code} {Q : Exit → Act → World → Prop} {a : Act} {w : World} {n gf : Nat} {lb : Array Value}
    (hg : a.eval g = .func (.func gf) #[] lb) (eg : ∀ args w, (callFunc gf args).run P w = .ok (.enter gf args) w) {encs : α → Array Value} {xs : List α} (hps : ∀ x, (encs x).size = ps.size) (hseq : Gives P gf lb encs xs w)
    (I : List α → World → Prop) (R : World → Prop) (hI : ∀ s A B, I s A → Tch (fun k => w.heap.size ≤ k) A B → I s B) (hR : ∀ A B, R A → Tch (fun k => w.heap.size ≤ k) A B → R B)
    (h0 : I [] w) (A : α → Nat → Act) (G : α → World → World) (hG : ∀ x W, Below W.heap.size W (G x W))
    (hassign : ∀ (l : Nat) (x : α) (W : World) (K : Act → World → Prop), x ∈ xs → K (A x W.heap.size) (G x W) →
      assign.wpIn (Fence.wide.inRound l) n P (Exit.then K (fun _ _ _ => False)) { tmps := (ps.zip (encs x)).foldl (fun t (p, v) => t.setIfInBounds p v) a.tmps, defers := [] } W)
    (hbody : ∀ (l : Nat) (pre : List α) (x : α) (rest : List α) (b : Nat) (W0 W : World), xs = pre ++ x :: rest → w.heap.size ≤ b → b = W0.heap.size → W.heap.size = (G x W0).heap.size → (∀ k, b ≤ k → W.heap[k]? = (G x W0).heap[k]?) → I pre W →
      body.wpIn (Fence.wide.inRound l) n P (fun e _ W' => Kept w.heap.size W W' ∧ ((e = .normal ∧ I (pre ++ [x]) W') ∨ (e = .ret ∧ R W'))) (A x b) W)
    (hdone : ∀ D W, w.heap.size ≤ D → I xs W → W.heap[D]? = some (.deferred (some [])) → Q .normal (markD a D) W)
    (hstop : ∀ D W, w.heap.size ≤ D → R W → W.heap[D]? = some (.deferred (some [])) → Q .ret (markD a D) W) :
    (Code.rangeFunc g ps assign body).wpIn Fence.wide n P Q a w := by
  refine wpIn_rangeFunc ?_
  intro fn hfn
  obtain ⟨rec, hrec⟩ : ∃ rec : LoopState → Option Code → Loop, rec = fun st pe => { state := st, pending := pe, fn, tmps := a.tmps, params := ps, assign, body, defers := w.heap.size } := ⟨_, rfl⟩
  obtain ⟨W1, hW1⟩ : ∃ W1, (w.alloc (.deferred (some []))).alloc (.loop (rec .ready none)) = W1 := ⟨_, rfl⟩
  have hs1 : W1.heap.size = w.heap.size + 2 := by rw [← hW1]; simp
  have hL1 : W1.heap[w.heap.size + 1]? = some (.loop (rec .ready none)) := by
    rw [← hW1]
    have := World.alloc_heap_new (w.alloc (.deferred (some []))) (.loop (rec .ready none))
    rwa [World.size_alloc] at this
  have hD1 : W1.heap[w.heap.size]? = some (.deferred (some [])) := by
    rw [← hW1]
    exact (Below.heap_alloc _ _ _ (by simp)).trans (World.alloc_heap_new w _)
  have hb1 : Below w.heap.size w W1 := by
    rw [← hW1]
    exact ((Below.refl _ w).alloc (Nat.le_refl _) _).alloc (by simp) _
  have hI1 : I [] W1 := hI _ _ _ h0 (tch_of_below hb1)
  refine ⟨w.heap.size + 1, [{ target := .collected w.heap.size, args := #[] }], W1, { target := .fn (.func gf) lb, args := #[.func (.yield (w.heap.size + 1)) #[] #[]] }, W1, gf,
    #[.func (.yield (w.heap.size + 1)) #[] #[]] ++ lb, W1, ?_, ?_, ?_, ?_, fun h => (by cases h), ?_⟩
  · rw [← hW1, hrec]
    exact run_enterLoop_outer _ _ _ _ _
  · simp only [resolve, hg]
    simp [go_sem]
  · intro f' _
    trivial
  · simp [invoke, go_sem, eg]
  · refine callsIn_wide.2 ?_
    have stay : ∀ {A B : World} {k : Nat} {o : Obj}, k < W1.heap.size → Tch (fun k => W1.heap.size ≤ k) A B → A.heap[k]? = some o → B.heap[k]? = some o := fun hk t h => (t.block _ (Array.getElem?_eq_some_iff.1 h).1 (by omega)).trans h
    refine (hseq (w.heap.size + 1)
      (fun pre W => I pre W ∧ W.heap[w.heap.size + 1]? = some (.loop (rec .ready none)) ∧ W.heap[w.heap.size]? = some (.deferred (some [])))
      (fun W => R W ∧ W.heap[w.heap.size + 1]? = some (.loop (rec .done (some .ret))) ∧ W.heap[w.heap.size]? = some (.deferred (some [])))
      W1 hb1
      (fun s A B hs t => ⟨hI s A B hs.1 (t.mono (fun k hk => by omega)), stay (by omega) t hs.2.1, stay (by omega) t hs.2.2⟩)
      (fun A B hs t => ⟨hR A B hs.1 (t.mono (fun k hk => by omega)), stay (by omega) t hs.2.1, stay (by omega) t hs.2.2⟩)
      ?_ ⟨hI1, hL1, hD1⟩).mono ?_
    · rintro pre x rest W hx ⟨hi, hl, hk⟩
      have hlt : w.heap.size + 1 < W.heap.size := (Array.getElem?_eq_some_iff.1 hl).1
      have hy := run_yield (P := P) (args := encs x) hl (by rw [hrec]; exact hps x)
      rw [hrec] at hy
      refine yield_any (m := n) ⟨fn, _, assign, body, hy, roundIn_of_wpIn hfn (hassign _ x W _ (by rw [hx]; simp) ?_)⟩
      have hgs := (hG x W).size
      have hla : (G x W).heap[w.heap.size + 1]? = some (.loop (rec .ready none)) := ((hG x W).block _ hlt).trans hl
      have hka : (G x W).heap[w.heap.size]? = some (.deferred (some [])) := ((hG x W).block _ (by omega)).trans hk
      refine ⟨_, run_beginRound hla (by rw [hrec]), ?_⟩
      have hl2 : ((G x W).putObj (w.heap.size + 1) (.loop { rec .ready none with state := .busy })).heap[w.heap.size + 1]? = some (.loop { rec .ready none with state := .busy }) := World.putObj_heap_same (by omega)
      have hk2 : ((G x W).putObj (w.heap.size + 1) (.loop { rec .ready none with state := .busy })).heap[w.heap.size]? = some (.deferred (some [])) := (World.putObj_heap_other (by omega)).trans hka
      have hb2 : ∀ k, W.heap.size ≤ k → ((G x W).putObj (w.heap.size + 1) (.loop { rec .ready none with state := .busy })).heap[k]? = (G x W).heap[k]? := fun k hk => World.putObj_heap_other (by omega)
      have hb3 : ((G x W).putObj (w.heap.size + 1) (.loop { rec .ready none with state := .busy })).heap.size = (G x W).heap.size := by simp
      have kp : Kept W1.heap.size W ((G x W).putObj (w.heap.size + 1) (.loop { rec .ready none with state := .busy })) := (Kept.of_below (hG x W)).trans (Kept.putObj _ hla rfl (by omega))
      have hi2 : I pre ((G x W).putObj (w.heap.size + 1) (.loop { rec .ready none with state := .busy })) := hI _ _ _ hi ((Tch.of_below (hG x W)).trans (tch_putObj _ (by omega)))
      refine wpIn_mono (hbody _ pre x rest W.heap.size W _ hx (by omega) rfl hb3 hb2 hi2) ?_
      clear hb2 hb3
      generalize (G x W).putObj (w.heap.size + 1) (.loop { rec .ready none with state := .busy }) = W2 at *
      rintro e a3 W3 ⟨hk3, hp⟩
      have hlt2 : w.heap.size + 1 < W2.heap.size := (Array.getElem?_eq_some_iff.1 hl2).1
      have hl3 := (hk3.up _ (by omega) hlt2).trans hl2
      have hD3 := (hk3.up _ (Nat.le_refl _) (by omega)).trans hk2
      have hlt3 : w.heap.size + 1 < W3.heap.size := (Array.getElem?_eq_some_iff.1 hl3).1
      have fin : ∀ (jump : Option Code), (Instr.endRound (w.heap.size + 1) jump).run P W3 = .ok (.bool jump.isNone) (W3.putObj (w.heap.size + 1) (.loop (rec (if jump.isNone then .ready else .done) jump))) := fun jump => by
        have := run_endRound (P := P) jump hl3
        rw [hrec] at this ⊢
        exact this
      have hl4 : ∀ o, (W3.putObj (w.heap.size + 1) o).heap[w.heap.size + 1]? = some o := fun o => World.putObj_heap_same hlt3
      have hD4 : ∀ o, (W3.putObj (w.heap.size + 1) o).heap[w.heap.size]? = some (.deferred (some [])) := fun o => (World.putObj_heap_other (by omega)).trans hD3
      rcases hp with ⟨rfl, hi3⟩ | ⟨rfl, hr3⟩
      · exact ⟨_, _, fin none, .inl ⟨rfl, ⟨hI _ _ _ hi3 (tch_putObj _ (by omega)), hl4 _, hD4 _⟩, kp.trans ((hk3.mono (by omega)).trans (Kept.putObj _ hl3 rfl (by omega)))⟩⟩
      · exact ⟨_, _, fin (some .ret), .inr ⟨rfl, ⟨hR _ _ hr3 (tch_putObj _ (by omega)), hl4 _, hD4 _⟩, kp.trans ((hk3.mono (by omega)).trans (Kept.putObj _ hl3 rfl (by omega)))⟩⟩
    · rintro e W2 ⟨⟨v, rfl⟩, (⟨hi, hl, hk⟩ | ⟨hr, hl, hk⟩)⟩
      · exact ⟨none, _, by have := run_endLoop (P := P) hl (by rw [hrec]; simp); rw [hrec] at this; exact this, hdone _ _ (Nat.le_refl _) (hI _ _ _ hi (tch_putObj _ (by omega))) ((World.putObj_heap_other (by omega)).trans hk)⟩
      · exact ⟨some .ret, _, by have := run_endLoop (P := P) hl (by rw [hrec]; simp); rw [hrec] at this; exact this, wpIn_ret (hstop _ _ (Nat.le_refl _) (hR _ _ hr (tch_putObj _ (by omega))) ((World.putObj_heap_other (by omega)).trans hk))⟩
end Go.Icz
