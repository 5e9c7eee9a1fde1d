/-
  A range over a function whose rounds keep all cells and all that lies from a place on; such a loop may stand in an iterator that another loop ranges over. Conditions: those that each theorem names.
  A range over a function, a round of which may make any number of boxes. Conditions: those that each theorem names.
-/
import Derived.Test.YtaoeabnpmpimgaaDoorTx0
import Derived.RangeFuncNested
import Derived.RangeFuncBound
import Derived.RangeFuncLeaves
section
namespace Go.Icz
open Go.RowKit
/-- What a round keeps: cells everywhere, and whatever lies from n₁ on. -/
structure Kept (n₁ : Nat) (W W' : World) : Prop where
  os : W'.os = W.os
  tape : W'.tape = W.tape
  output : W'.output = W.output
  size : W.heap.size ≤ W'.heap.size
  cells : ∀ (k : Nat) (cs : Array Value) (t : TypeId) (z : Nat × Nat), W.heap[k]? = some (Obj.cells cs t z) → W'.heap[k]? = some (Obj.cells cs t z)
  up : ∀ k, n₁ ≤ k → k < W.heap.size → W'.heap[k]? = W.heap[k]?
theorem Kept.refl (n₁ : Nat) (W : World) : Kept n₁ W W := ⟨rfl, rfl, rfl, Nat.le_refl _, fun _ _ _ _ h => h, fun _ _ _ => rfl⟩
theorem Kept.trans {n₁ : Nat} {A B C : World} (h : Kept n₁ A B) (k : Kept n₁ B C) : Kept n₁ A C :=
  ⟨k.os.trans h.os, k.tape.trans h.tape, k.output.trans h.output, Nat.le_trans h.size k.size, fun j cs t z hj => k.cells j cs t z (h.cells j cs t z hj), fun j h1 h2 => (k.up j h1 (Nat.lt_of_lt_of_le h2 h.size)).trans (h.up j h1 h2)⟩
theorem Kept.mono {n₁ n₂ : Nat} {W W' : World} (h : Kept n₁ W W') (hn : n₁ ≤ n₂) : Kept n₂ W W' := ⟨h.os, h.tape, h.output, h.size, h.cells, fun k hk => h.up k (Nat.le_trans hn hk)⟩
theorem Kept.putObj {n₁ : Nat} {W : World} {l : Nat} {o : Obj} (o' : Obj) (h : W.heap[l]? = some o) (hc : o.isCells = false) (hl : l < n₁) : Kept n₁ W (W.putObj l o') := by
  refine ⟨rfl, rfl, rfl, by simp, fun k cs t z hk => ?_, fun k hk _ => World.putObj_heap_other (by omega)⟩
  by_cases e : k = l
  · subst e
    rw [h] at hk
    injection hk with hk
    subst hk
    cases hc
  · exact (World.putObj_heap_other e).trans hk
theorem Kept.of_below {n₁ : Nat} {W W' : World} (h : Below W.heap.size W W') : Kept n₁ W W' :=
  ⟨h.os, h.tape, h.output, h.size, fun k _ _ _ hk => (h.block k (Array.getElem?_eq_some_iff.1 hk).1).trans hk, fun k _ hk => h.block k hk⟩
theorem Kept.alloc (n₁ : Nat) (W : World) (o : Obj) : Kept n₁ W (W.alloc o) := .of_below ((Below.refl _ W).alloc (Nat.le_refl _) _)
/-- Only a block below n₁ that holds no cells has turned. -/
theorem Kept.of_tch {n₁ b : Nat} {W W' : World} (h : Tch (· = b) W W') (hb : b < n₁) {o : Obj} (ho : W.heap[b]? = some o) (hc : o.isCells = false) : Kept n₁ W W' := by
  refine ⟨h.os, h.tape, h.output, h.size, fun k cs t z hk => ?_, fun k hk hlt => h.block k hlt (by omega)⟩
  refine (h.block k (Array.getElem?_eq_some_iff.1 hk).1 (fun e => ?_)).trans hk
  subst e
  rw [ho] at hk
  injection hk with hk
  subst hk
  cases hc
theorem Kept.cell {n₁ : Nat} {W W' : World} (h : Kept n₁ W W') {p : Addr} {v : Value} (hv : W.cell? p = some v) : W'.cell? p = some v := by
  have hb : W'.heap[p.block]? = W.heap[p.block]? := by
    unfold World.cell? at hv
    cases ho : W.heap[p.block]? with
    | none => simp [ho] at hv
    | some o =>
      cases o with
      | cells cs t z => exact h.cells _ _ _ _ ho
      | _ => simp [ho] at hv
  rw [show W'.cell? p = W.cell? p by unfold World.cell?; rw [hb]]
  exact hv
theorem tch_putObj {S : Nat → Prop} {W : World} {l : Nat} (o : Obj) (hl : S l) : Tch S W (W.putObj l o) :=
  ⟨rfl, rfl, rfl, by simp, fun _ _ hk => World.putObj_heap_other (fun e => hk (by rw [e]; exact hl))⟩
theorem tch_of_below {B : Nat} {W W' : World} (h : Below B W W') : Tch (fun k => B ≤ k) W W' := ⟨h.os, h.tape, h.output, h.size, fun k _ hn => h.block k (by omega)⟩
theorem below_of_tch {B : Nat} {W W' : World} (h : Tch (fun k => B ≤ k) W W') (hB : B ≤ W.heap.size) : Below B W W' := h.to_below (fun _ h => h) hB
theorem yield_any {m m' : Nat} {P : Program} {l : Nat} {args : Array Value} {W : World} {R : Ending → World → Prop} (h : YieldAt Fence.wide m P l args W R) : YieldAt Fence.wide m' P l args W R := by
  obtain ⟨fn, tmps, assign, body, hy, hF, hR⟩ := h
  exact ⟨fn, tmps, assign, body, hy, hF, fun c cs _ => hR c cs (room_wide _)⟩
/-- An iterator hands over xs, one by one, unless a round says no. -/
def Gives {α : Type} (P : Program) (g : Nat) (lb : Array Value) (encs : α → Array Value) (xs : List α) (w0 : World) : Prop :=
  ∀ (l : Nat) (J : List α → World → Prop) (Jx : World → Prop) (W : World), Below w0.heap.size w0 W →
    (∀ s A B, J s A → Tch (fun k => W.heap.size ≤ k) A B → J s B) → (∀ A B, Jx A → Tch (fun k => W.heap.size ≤ k) A B → Jx B) →
    (∀ pre x rest W1, xs = pre ++ x :: rest → J pre W1 → YieldAt Fence.wide 0 P l (encs x) W1 fun e W' => (e = .returned (.bool true) ∧ J (pre ++ [x]) W' ∧ Kept W.heap.size W1 W') ∨ (e = .returned (.bool false) ∧ Jx W' ∧ Kept W.heap.size W1 W')) →
    J [] W →
    Calls P g (#[.func (.yield l) #[] #[]] ++ lb) W fun e W' => (∃ v, e = .returned v) ∧ (J xs W' ∨ Jx W')
def markD (a : Act) (D : Nat) : Act := { a with defers := { target := .collected D, args := #[] } :: a.defers }
theorem wp_rangeFunc {α : Type} {P : Program} {g : Operand} {ps : Array Tmp} {assign body : Code} {Q : Exit → Act → World → Prop} {a : Act} {w : World} {n gf : Nat} {lb : Array Value}
    (hg : a.eval g = .func (.func gf) #[] lb) (eg : ∀ args w, (callFunc gf args).run P w = .ok (.enter gf args) w) {encs : α → Array Value} {xs : List α} (hps : ∀ x, (encs x).size = ps.size) (hseq : Gives P gf lb encs xs w)
    (I : List α → World → Prop) (R : World → Prop) (hI : ∀ s A B, I s A → Tch (fun k => w.heap.size ≤ k) A B → I s B) (hR : ∀ A B, R A → Tch (fun k => w.heap.size ≤ k) A B → R B)
    (h0 : I [] w) (A : α → Nat → Act) (bx : α → Obj)
    (hassign : ∀ (l : Nat) (x : α) (W : World) (K : Act → World → Prop), x ∈ xs → K (A x W.heap.size) (W.alloc (bx x)) →
      assign.wpIn (Fence.wide.inRound l) n P (Exit.then K (fun _ _ _ => False)) { tmps := (ps.zip (encs x)).foldl (fun t (p, v) => t.setIfInBounds p v) a.tmps, defers := [] } W)
    (hbody : ∀ (l : Nat) (pre : List α) (x : α) (rest : List α) (b : Nat) (W : World), xs = pre ++ x :: rest → w.heap.size ≤ b → b < W.heap.size → W.heap[b]? = some (bx x) → I pre W →
      body.wpIn (Fence.wide.inRound l) n P (fun e _ W' => Kept w.heap.size W W' ∧ ((e = .normal ∧ I (pre ++ [x]) W') ∨ (e = .ret ∧ R W'))) (A x b) W)
    (hdone : ∀ D W, w.heap.size ≤ D → I xs W → W.heap[D]? = some (.deferred (some [])) → Q .normal (markD a D) W)
    (hstop : ∀ D W, w.heap.size ≤ D → R W → W.heap[D]? = some (.deferred (some [])) → Q .ret (markD a D) W) :
    (Code.rangeFunc g ps assign body).wpIn Fence.wide n P Q a w := by
  refine wpIn_rangeFunc ?_
  intro fn hfn
  obtain ⟨rec, hrec⟩ : ∃ rec : LoopState → Option Code → Loop, rec = fun st pe => { state := st, pending := pe, fn, tmps := a.tmps, params := ps, assign, body, defers := w.heap.size } := ⟨_, rfl⟩
  obtain ⟨W1, hW1⟩ : ∃ W1, (w.alloc (.deferred (some []))).alloc (.loop (rec .ready none)) = W1 := ⟨_, rfl⟩
  have hs1 : W1.heap.size = w.heap.size + 2 := by rw [← hW1]; simp
  have hL1 : W1.heap[w.heap.size + 1]? = some (.loop (rec .ready none)) := by
    rw [← hW1]
    have := World.alloc_heap_new (w.alloc (.deferred (some []))) (.loop (rec .ready none))
    rwa [World.size_alloc] at this
  have hD1 : W1.heap[w.heap.size]? = some (.deferred (some [])) := by
    rw [← hW1]
    exact (Below.heap_alloc _ _ _ (by simp)).trans (World.alloc_heap_new w _)
  have hb1 : Below w.heap.size w W1 := by
    rw [← hW1]
    exact ((Below.refl _ w).alloc (Nat.le_refl _) _).alloc (by simp) _
  have hI1 : I [] W1 := hI _ _ _ h0 (tch_of_below hb1)
  refine ⟨w.heap.size + 1, [{ target := .collected w.heap.size, args := #[] }], W1, { target := .fn (.func gf) lb, args := #[.func (.yield (w.heap.size + 1)) #[] #[]] }, W1, gf,
    #[.func (.yield (w.heap.size + 1)) #[] #[]] ++ lb, W1, ?_, ?_, ?_, ?_, fun h => (by cases h), ?_⟩
  · rw [← hW1, hrec]
    exact run_enterLoop_outer _ _ _ _ _
  · simp only [resolve, hg]
    simp [go_sem]
  · intro f' _
    trivial
  · simp [invoke, go_sem, eg]
  · refine callsIn_wide.2 ?_
    have stay : ∀ {A B : World} {k : Nat} {o : Obj}, k < W1.heap.size → Tch (fun k => W1.heap.size ≤ k) A B → A.heap[k]? = some o → B.heap[k]? = some o := fun hk t h => (t.block _ (Array.getElem?_eq_some_iff.1 h).1 (by omega)).trans h
    refine (hseq (w.heap.size + 1)
      (fun pre W => I pre W ∧ W.heap[w.heap.size + 1]? = some (.loop (rec .ready none)) ∧ W.heap[w.heap.size]? = some (.deferred (some [])))
      (fun W => R W ∧ W.heap[w.heap.size + 1]? = some (.loop (rec .done (some .ret))) ∧ W.heap[w.heap.size]? = some (.deferred (some [])))
      W1 hb1
      (fun s A B hs t => ⟨hI s A B hs.1 (t.mono (fun k hk => by omega)), stay (by omega) t hs.2.1, stay (by omega) t hs.2.2⟩)
      (fun A B hs t => ⟨hR A B hs.1 (t.mono (fun k hk => by omega)), stay (by omega) t hs.2.1, stay (by omega) t hs.2.2⟩)
      ?_ ⟨hI1, hL1, hD1⟩).mono ?_
    · rintro pre x rest W hx ⟨hi, hl, hk⟩
      have hlt : w.heap.size + 1 < W.heap.size := (Array.getElem?_eq_some_iff.1 hl).1
      have hy := run_yield (P := P) (args := encs x) hl (by rw [hrec]; exact hps x)
      rw [hrec] at hy
      refine yield_any (m := n) ⟨fn, _, assign, body, hy, roundIn_of_wpIn hfn (hassign _ x W _ (by rw [hx]; simp) ?_)⟩
      have hbx : (W.alloc (bx x)).heap[W.heap.size]? = some (bx x) := World.alloc_heap_new W _
      have hla : (W.alloc (bx x)).heap[w.heap.size + 1]? = some (.loop (rec .ready none)) := (Below.heap_alloc _ _ _ hlt).trans hl
      have hka : (W.alloc (bx x)).heap[w.heap.size]? = some (.deferred (some [])) := (Below.heap_alloc _ _ _ (by omega)).trans hk
      refine ⟨_, run_beginRound hla (by rw [hrec]), ?_⟩
      have hl2 : ((W.alloc (bx x)).putObj (w.heap.size + 1) (.loop { rec .ready none with state := .busy })).heap[w.heap.size + 1]? = some (.loop { rec .ready none with state := .busy }) := World.putObj_heap_same (by simp; omega)
      have hk2 : ((W.alloc (bx x)).putObj (w.heap.size + 1) (.loop { rec .ready none with state := .busy })).heap[w.heap.size]? = some (.deferred (some [])) := (World.putObj_heap_other (by omega)).trans hka
      have hb2 : ((W.alloc (bx x)).putObj (w.heap.size + 1) (.loop { rec .ready none with state := .busy })).heap[W.heap.size]? = some (bx x) := (World.putObj_heap_other (by omega)).trans hbx
      have kp : Kept W1.heap.size W ((W.alloc (bx x)).putObj (w.heap.size + 1) (.loop { rec .ready none with state := .busy })) := (Kept.alloc _ _ _).trans (Kept.putObj _ hla rfl (by omega))
      have hi2 : I pre ((W.alloc (bx x)).putObj (w.heap.size + 1) (.loop { rec .ready none with state := .busy })) := hI _ _ _ hi ((Tch.alloc _ _ _).trans (tch_putObj _ (by omega)))
      refine wpIn_mono (hbody _ pre x rest W.heap.size _ hx (by omega) (by simp) hb2 hi2) ?_
      generalize (W.alloc (bx x)).putObj (w.heap.size + 1) (.loop { rec .ready none with state := .busy }) = W2 at *
      rintro e a3 W3 ⟨hk3, hp⟩
      have hlt2 : w.heap.size + 1 < W2.heap.size := (Array.getElem?_eq_some_iff.1 hl2).1
      have hl3 := (hk3.up _ (by omega) hlt2).trans hl2
      have hD3 := (hk3.up _ (Nat.le_refl _) (by omega)).trans hk2
      have hlt3 : w.heap.size + 1 < W3.heap.size := (Array.getElem?_eq_some_iff.1 hl3).1
      have fin : ∀ (jump : Option Code), (Instr.endRound (w.heap.size + 1) jump).run P W3 = .ok (.bool jump.isNone) (W3.putObj (w.heap.size + 1) (.loop (rec (if jump.isNone then .ready else .done) jump))) := fun jump => by
        have := run_endRound (P := P) jump hl3
        rw [hrec] at this ⊢
        exact this
      have hl4 : ∀ o, (W3.putObj (w.heap.size + 1) o).heap[w.heap.size + 1]? = some o := fun o => World.putObj_heap_same hlt3
      have hD4 : ∀ o, (W3.putObj (w.heap.size + 1) o).heap[w.heap.size]? = some (.deferred (some [])) := fun o => (World.putObj_heap_other (by omega)).trans hD3
      rcases hp with ⟨rfl, hi3⟩ | ⟨rfl, hr3⟩
      · exact ⟨_, _, fin none, .inl ⟨rfl, ⟨hI _ _ _ hi3 (tch_putObj _ (by omega)), hl4 _, hD4 _⟩, kp.trans ((hk3.mono (by omega)).trans (Kept.putObj _ hl3 rfl (by omega)))⟩⟩
      · exact ⟨_, _, fin (some .ret), .inr ⟨rfl, ⟨hR _ _ hr3 (tch_putObj _ (by omega)), hl4 _, hD4 _⟩, kp.trans ((hk3.mono (by omega)).trans (Kept.putObj _ hl3 rfl (by omega)))⟩⟩
    · rintro e W2 ⟨⟨v, rfl⟩, (⟨hi, hl, hk⟩ | ⟨hr, hl, hk⟩)⟩
      · exact ⟨none, _, by have := run_endLoop (P := P) hl (by rw [hrec]; simp); rw [hrec] at this; exact this, hdone _ _ (Nat.le_refl _) (hI _ _ _ hi (tch_putObj _ (by omega))) ((World.putObj_heap_other (by omega)).trans hk)⟩
      · exact ⟨some .ret, _, by have := run_endLoop (P := P) hl (by rw [hrec]; simp); rw [hrec] at this; exact this, wpIn_ret (hstop _ _ (Nat.le_refl _) (hR _ _ hr (tch_putObj _ (by omega))) ((World.putObj_heap_other (by omega)).trans hk))⟩
end Go.Icz
end
section
namespace Go.Icz
open Go.RowKit
/-- As wp_rangeFunc; a round makes what G makes. -/
theorem wp_rangeFuncG {α : Type} {P : Program} {g : Operand} {ps : Array Tmp} {assign body : Code} {Q : Exit → Act → World → Prop} {a : Act} {w : World} {n gf : Nat} {lb : Array Value}
    (hg : a.eval g = .func (.func gf) #[] lb) (eg : ∀ args w, (callFunc gf args).run P w = .ok (.enter gf args) w) {encs : α → Array Value} {xs : List α} (hps : ∀ x, (encs x).size = ps.size) (hseq : Gives P gf lb encs xs w)
    (I : List α → World → Prop) (R : World → Prop) (hI : ∀ s A B, I s A → Tch (fun k => w.heap.size ≤ k) A B → I s B) (hR : ∀ A B, R A → Tch (fun k => w.heap.size ≤ k) A B → R B)
    (h0 : I [] w) (A : α → Nat → Act) (G : α → World → World) (hG : ∀ x W, Below W.heap.size W (G x W))
    (hassign : ∀ (l : Nat) (x : α) (W : World) (K : Act → World → Prop), x ∈ xs → K (A x W.heap.size) (G x W) →
      assign.wpIn (Fence.wide.inRound l) n P (Exit.then K (fun _ _ _ => False)) { tmps := (ps.zip (encs x)).foldl (fun t (p, v) => t.setIfInBounds p v) a.tmps, defers := [] } W)
    (hbody : ∀ (l : Nat) (pre : List α) (x : α) (rest : List α) (b : Nat) (W0 W : World), xs = pre ++ x :: rest → w.heap.size ≤ b → b = W0.heap.size → W.heap.size = (G x W0).heap.size → (∀ k, b ≤ k → W.heap[k]? = (G x W0).heap[k]?) → I pre W →
      body.wpIn (Fence.wide.inRound l) n P (fun e _ W' => Kept w.heap.size W W' ∧ ((e = .normal ∧ I (pre ++ [x]) W') ∨ (e = .ret ∧ R W'))) (A x b) W)
    (hdone : ∀ D W, w.heap.size ≤ D → I xs W → W.heap[D]? = some (.deferred (some [])) → Q .normal (markD a D) W)
    (hstop : ∀ D W, w.heap.size ≤ D → R W → W.heap[D]? = some (.deferred (some [])) → Q .ret (markD a D) W) :
    (Code.rangeFunc g ps assign body).wpIn Fence.wide n P Q a w := by
  refine wpIn_rangeFunc ?_
  intro fn hfn
  obtain ⟨rec, hrec⟩ : ∃ rec : LoopState → Option Code → Loop, rec = fun st pe => { state := st, pending := pe, fn, tmps := a.tmps, params := ps, assign, body, defers := w.heap.size } := ⟨_, rfl⟩
  obtain ⟨W1, hW1⟩ : ∃ W1, (w.alloc (.deferred (some []))).alloc (.loop (rec .ready none)) = W1 := ⟨_, rfl⟩
  have hs1 : W1.heap.size = w.heap.size + 2 := by rw [← hW1]; simp
  have hL1 : W1.heap[w.heap.size + 1]? = some (.loop (rec .ready none)) := by
    rw [← hW1]
    have := World.alloc_heap_new (w.alloc (.deferred (some []))) (.loop (rec .ready none))
    rwa [World.size_alloc] at this
  have hD1 : W1.heap[w.heap.size]? = some (.deferred (some [])) := by
    rw [← hW1]
    exact (Below.heap_alloc _ _ _ (by simp)).trans (World.alloc_heap_new w _)
  have hb1 : Below w.heap.size w W1 := by
    rw [← hW1]
    exact ((Below.refl _ w).alloc (Nat.le_refl _) _).alloc (by simp) _
  have hI1 : I [] W1 := hI _ _ _ h0 (tch_of_below hb1)
  refine ⟨w.heap.size + 1, [{ target := .collected w.heap.size, args := #[] }], W1, { target := .fn (.func gf) lb, args := #[.func (.yield (w.heap.size + 1)) #[] #[]] }, W1, gf,
    #[.func (.yield (w.heap.size + 1)) #[] #[]] ++ lb, W1, ?_, ?_, ?_, ?_, fun h => (by cases h), ?_⟩
  · rw [← hW1, hrec]
    exact run_enterLoop_outer _ _ _ _ _
  · simp only [resolve, hg]
    simp [go_sem]
  · intro f' _
    trivial
  · simp [invoke, go_sem, eg]
  · refine callsIn_wide.2 ?_
    have stay : ∀ {A B : World} {k : Nat} {o : Obj}, k < W1.heap.size → Tch (fun k => W1.heap.size ≤ k) A B → A.heap[k]? = some o → B.heap[k]? = some o := fun hk t h => (t.block _ (Array.getElem?_eq_some_iff.1 h).1 (by omega)).trans h
    refine (hseq (w.heap.size + 1)
      (fun pre W => I pre W ∧ W.heap[w.heap.size + 1]? = some (.loop (rec .ready none)) ∧ W.heap[w.heap.size]? = some (.deferred (some [])))
      (fun W => R W ∧ W.heap[w.heap.size + 1]? = some (.loop (rec .done (some .ret))) ∧ W.heap[w.heap.size]? = some (.deferred (some [])))
      W1 hb1
      (fun s A B hs t => ⟨hI s A B hs.1 (t.mono (fun k hk => by omega)), stay (by omega) t hs.2.1, stay (by omega) t hs.2.2⟩)
      (fun A B hs t => ⟨hR A B hs.1 (t.mono (fun k hk => by omega)), stay (by omega) t hs.2.1, stay (by omega) t hs.2.2⟩)
      ?_ ⟨hI1, hL1, hD1⟩).mono ?_
    · rintro pre x rest W hx ⟨hi, hl, hk⟩
      have hlt : w.heap.size + 1 < W.heap.size := (Array.getElem?_eq_some_iff.1 hl).1
      have hy := run_yield (P := P) (args := encs x) hl (by rw [hrec]; exact hps x)
      rw [hrec] at hy
      refine yield_any (m := n) ⟨fn, _, assign, body, hy, roundIn_of_wpIn hfn (hassign _ x W _ (by rw [hx]; simp) ?_)⟩
      have hgs := (hG x W).size
      have hla : (G x W).heap[w.heap.size + 1]? = some (.loop (rec .ready none)) := ((hG x W).block _ hlt).trans hl
      have hka : (G x W).heap[w.heap.size]? = some (.deferred (some [])) := ((hG x W).block _ (by omega)).trans hk
      refine ⟨_, run_beginRound hla (by rw [hrec]), ?_⟩
      have hl2 : ((G x W).putObj (w.heap.size + 1) (.loop { rec .ready none with state := .busy })).heap[w.heap.size + 1]? = some (.loop { rec .ready none with state := .busy }) := World.putObj_heap_same (by omega)
      have hk2 : ((G x W).putObj (w.heap.size + 1) (.loop { rec .ready none with state := .busy })).heap[w.heap.size]? = some (.deferred (some [])) := (World.putObj_heap_other (by omega)).trans hka
      have hb2 : ∀ k, W.heap.size ≤ k → ((G x W).putObj (w.heap.size + 1) (.loop { rec .ready none with state := .busy })).heap[k]? = (G x W).heap[k]? := fun k hk => World.putObj_heap_other (by omega)
      have hb3 : ((G x W).putObj (w.heap.size + 1) (.loop { rec .ready none with state := .busy })).heap.size = (G x W).heap.size := by simp
      have kp : Kept W1.heap.size W ((G x W).putObj (w.heap.size + 1) (.loop { rec .ready none with state := .busy })) := (Kept.of_below (hG x W)).trans (Kept.putObj _ hla rfl (by omega))
      have hi2 : I pre ((G x W).putObj (w.heap.size + 1) (.loop { rec .ready none with state := .busy })) := hI _ _ _ hi ((Tch.of_below (hG x W)).trans (tch_putObj _ (by omega)))
      refine wpIn_mono (hbody _ pre x rest W.heap.size W _ hx (by omega) rfl hb3 hb2 hi2) ?_
      clear hb2 hb3
      generalize (G x W).putObj (w.heap.size + 1) (.loop { rec .ready none with state := .busy }) = W2 at *
      rintro e a3 W3 ⟨hk3, hp⟩
      have hlt2 : w.heap.size + 1 < W2.heap.size := (Array.getElem?_eq_some_iff.1 hl2).1
      have hl3 := (hk3.up _ (by omega) hlt2).trans hl2
      have hD3 := (hk3.up _ (Nat.le_refl _) (by omega)).trans hk2
      have hlt3 : w.heap.size + 1 < W3.heap.size := (Array.getElem?_eq_some_iff.1 hl3).1
      have fin : ∀ (jump : Option Code), (Instr.endRound (w.heap.size + 1) jump).run P W3 = .ok (.bool jump.isNone) (W3.putObj (w.heap.size + 1) (.loop (rec (if jump.isNone then .ready else .done) jump))) := fun jump => by
        have := run_endRound (P := P) jump hl3
        rw [hrec] at this ⊢
        exact this
      have hl4 : ∀ o, (W3.putObj (w.heap.size + 1) o).heap[w.heap.size + 1]? = some o := fun o => World.putObj_heap_same hlt3
      have hD4 : ∀ o, (W3.putObj (w.heap.size + 1) o).heap[w.heap.size]? = some (.deferred (some [])) := fun o => (World.putObj_heap_other (by omega)).trans hD3
      rcases hp with ⟨rfl, hi3⟩ | ⟨rfl, hr3⟩
      · exact ⟨_, _, fin none, .inl ⟨rfl, ⟨hI _ _ _ hi3 (tch_putObj _ (by omega)), hl4 _, hD4 _⟩, kp.trans ((hk3.mono (by omega)).trans (Kept.putObj _ hl3 rfl (by omega)))⟩⟩
      · exact ⟨_, _, fin (some .ret), .inr ⟨rfl, ⟨hR _ _ hr3 (tch_putObj _ (by omega)), hl4 _, hD4 _⟩, kp.trans ((hk3.mono (by omega)).trans (Kept.putObj _ hl3 rfl (by omega)))⟩⟩
    · rintro e W2 ⟨⟨v, rfl⟩, (⟨hi, hl, hk⟩ | ⟨hr, hl, hk⟩)⟩
      · exact ⟨none, _, by have := run_endLoop (P := P) hl (by rw [hrec]; simp); rw [hrec] at this; exact this, hdone _ _ (Nat.le_refl _) (hI _ _ _ hi (tch_putObj _ (by omega))) ((World.putObj_heap_other (by omega)).trans hk)⟩
      · exact ⟨some .ret, _, by have := run_endLoop (P := P) hl (by rw [hrec]; simp); rw [hrec] at this; exact this, wpIn_ret (hstop _ _ (Nat.le_refl _) (hR _ _ hr (tch_putObj _ (by omega))) ((World.putObj_heap_other (by omega)).trans hk))⟩
end Go.Icz
end
