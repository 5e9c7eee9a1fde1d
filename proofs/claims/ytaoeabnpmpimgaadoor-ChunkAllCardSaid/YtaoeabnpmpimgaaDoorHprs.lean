/-
  A range over a function whose rounds may write cells, but those of a set N of blocks that the iterator needs. Conditions: those that each theorem names.
  What chunk.pairs hands over. Conditions: those that each theorem names.
-/
import Derived.Test.YtaoeabnpmpimgaaDoorHlp
import Derived.Test.YtaoeabnpmpimgaaDoorHpi
import Derived.Shelf.Abstract
import Derived.Shelf.RegionOpen
import Derived.WalkKit
import Derived.OwnWalkIn
import Derived.TacticsInMore
import Derived.LoopNIn
import Derived.LoopIn
section
namespace Go.Icz
open Go.RowKit
/-- What a round keeps: the cells in N, and whatever from n₁ on is no cells. -/
structure KeptS (N : Nat → Prop) (n₁ : Nat) (W W' : World) : Prop where
  os : W'.os = W.os
  tape : W'.tape = W.tape
  output : W'.output = W.output
  size : W.heap.size ≤ W'.heap.size
  cells : ∀ (k : Nat), N k → ∀ (cs : Array Value) (t : TypeId) (z : Nat × Nat), W.heap[k]? = some (Obj.cells cs t z) → W'.heap[k]? = some (Obj.cells cs t z)
  up : ∀ (k : Nat), n₁ ≤ k → ∀ o : Obj, o.isCells = false → W.heap[k]? = some o → W'.heap[k]? = some o
theorem KeptS.refl {N : Nat → Prop} (n₁ : Nat) (W : World) : KeptS N n₁ W W := ⟨rfl, rfl, rfl, Nat.le_refl _, fun _ _ _ _ _ h => h, fun _ _ _ _ h => h⟩
theorem KeptS.trans {N : Nat → Prop} {n₁ : Nat} {A B C : World} (h : KeptS N n₁ A B) (k : KeptS N n₁ B C) : KeptS N n₁ A C :=
  ⟨k.os.trans h.os, k.tape.trans h.tape, k.output.trans h.output, Nat.le_trans h.size k.size, fun j hj cs t z hh => k.cells j hj cs t z (h.cells j hj cs t z hh), fun j h1 o hc hh => k.up j h1 o hc (h.up j h1 o hc hh)⟩
theorem KeptS.mono {N : Nat → Prop} {n₁ n₂ : Nat} {W W' : World} (h : KeptS N n₁ W W') (hn : n₁ ≤ n₂) : KeptS N n₂ W W' := ⟨h.os, h.tape, h.output, h.size, h.cells, fun k hk => h.up k (Nat.le_trans hn hk)⟩
theorem KeptS.putObj {N : Nat → Prop} {n₁ : Nat} {W : World} {l : Nat} {o : Obj} (o' : Obj) (h : W.heap[l]? = some o) (hc : o.isCells = false) (hl : l < n₁) : KeptS N n₁ W (W.putObj l o') := by
  refine ⟨rfl, rfl, rfl, by simp, fun k _ cs t z hk => ?_, fun k hk o2 _ h2 => (World.putObj_heap_other (by omega)).trans h2⟩
  by_cases e : k = l
  · subst e
    rw [h] at hk
    injection hk with hk
    subst hk
    cases hc
  · exact (World.putObj_heap_other e).trans hk
theorem KeptS.of_below {N : Nat → Prop} {n₁ : Nat} {W W' : World} (h : Below W.heap.size W W') : KeptS N n₁ W W' :=
  ⟨h.os, h.tape, h.output, h.size, fun k _ _ _ _ hk => (h.block k (Array.getElem?_eq_some_iff.1 hk).1).trans hk, fun k _ _ _ hk => (h.block k (Array.getElem?_eq_some_iff.1 hk).1).trans hk⟩
/-- Only cells outside N have turned. -/
theorem KeptS.of_tch {N S : Nat → Prop} {n₁ : Nat} {W W' : World} (h : Tch S W W') (hS : ∀ k, S k → ¬ N k) (hc : ∀ k, S k → ∀ o : Obj, W.heap[k]? = some o → o.isCells = true) : KeptS N n₁ W W' := by
  refine ⟨h.os, h.tape, h.output, h.size, fun k hk cs t z hh => (h.block k (Array.getElem?_eq_some_iff.1 hh).1 (fun a => hS k a hk)).trans hh, fun k _ o ho hh => (h.block k (Array.getElem?_eq_some_iff.1 hh).1 (fun a => ?_)).trans hh⟩
  rw [hc k a o hh] at ho
  cases ho
theorem KeptS.cell {N : Nat → Prop} {n₁ : Nat} {W W' : World} (h : KeptS N n₁ W W') {p : Addr} {v : Value} (hv : W.cell? p = some v) (hS : N p.block) : W'.cell? p = some v := by
  have hb : W'.heap[p.block]? = W.heap[p.block]? := by
    unfold World.cell? at hv
    cases ho : W.heap[p.block]? with
    | none => simp [ho] at hv
    | some o =>
      cases o with
      | cells cs t z => exact h.cells _ hS _ _ _ ho
      | _ => simp [ho] at hv
  rw [show W'.cell? p = W.cell? p by unfold World.cell?; rw [hb]]
  exact hv
/-- What happens between two rounds: no cells turn, and nothing below n. -/
def Stl (n : Nat) (A B : World) : Prop := Tch (fun k => n ≤ k) A B ∧ ∀ (k : Nat) (cs : Array Value) (t : TypeId) (z : Nat × Nat), A.heap[k]? = some (Obj.cells cs t z) → B.heap[k]? = some (Obj.cells cs t z)
theorem Stl.trans {n : Nat} {A B C : World} (h : Stl n A B) (k : Stl n B C) : Stl n A C := ⟨h.1.trans k.1, fun j cs t z hj => k.2 j cs t z (h.2 j cs t z hj)⟩
theorem Stl.mono {n m : Nat} {A B : World} (h : Stl n A B) (hm : m ≤ n) : Stl m A B := ⟨h.1.mono (fun k hk => Nat.le_trans hm hk), h.2⟩
theorem Stl.of_below {n : Nat} {A B : World} (h : Below A.heap.size A B) : Stl n A B := ⟨Tch.of_below h, fun k _ _ _ hk => (h.block k (Array.getElem?_eq_some_iff.1 hk).1).trans hk⟩
theorem Stl.of_low {n : Nat} {A B : World} (h : Below n A B) (hn : A.heap.size ≤ n) : Stl n A B := ⟨tch_of_below h, fun k _ _ _ hk => (h.block k (by have := (Array.getElem?_eq_some_iff.1 hk).1; omega)).trans hk⟩
theorem Stl.putObj {n l : Nat} {W : World} {o : Obj} (o' : Obj) (h : W.heap[l]? = some o) (hc : o.isCells = false) (hl : n ≤ l) : Stl n W (W.putObj l o') :=
  ⟨tch_putObj _ hl, fun k => (KeptS.putObj (N := fun _ => True) (n₁ := l + 1) o' h hc (Nat.lt_succ_self l)).cells k trivial⟩
theorem stl_drewN (n : Nat) (w : World) (k : Nat) : Stl n w (w.drewN k) := ⟨⟨rfl, rfl, rfl, Nat.le_refl _, fun _ _ _ => rfl⟩, fun _ _ _ _ h => h⟩
/-- An iterator, whose rounds keep the cells of N, hands over xs, one by one, unless a round says no. -/
def GivesS (N : Nat → Prop) {α : Type} (P : Program) (g : Nat) (lb : Array Value) (encs : α → Array Value) (xs : List α) (w0 : World) : Prop :=
  ∀ (l : Nat) (J : List α → World → Prop) (Jx : World → Prop) (W : World), Below w0.heap.size w0 W →
    (∀ s A B, J s A → Stl W.heap.size A B → J s B) → (∀ A B, Jx A → Stl W.heap.size A B → Jx B) →
    (∀ pre x rest W1, xs = pre ++ x :: rest → J pre W1 → YieldAt Fence.wide 0 P l (encs x) W1 fun e W' => (e = .returned (.bool true) ∧ J (pre ++ [x]) W' ∧ KeptS N W.heap.size W1 W') ∨ (e = .returned (.bool false) ∧ Jx W' ∧ KeptS N W.heap.size W1 W')) →
    J [] W →
    Calls P g (#[.func (.yield l) #[] #[]] ++ lb) W fun e W' => (∃ v, e = .returned v) ∧ (J xs W' ∨ Jx W')
/-- As wp_rangeFunc; a round makes what G makes. -/
theorem wp_rangeFuncS {N : Nat → Prop} {α : Type} {P : Program} {g : Operand} {ps : Array Tmp} {assign body : Code} {Q : Exit → Act → World → Prop} {a : Act} {w : World} {n gf : Nat} {lb : Array Value}
    (hg : a.eval g = .func (.func gf) #[] lb) (eg : ∀ args w, (callFunc gf args).run P w = .ok (.enter gf args) w) {encs : α → Array Value} {xs : List α} (hps : ∀ x, (encs x).size = ps.size) (hseq : GivesS N P gf lb encs xs w)
    (I : List α → World → Prop) (R : World → Prop) (hI : ∀ s A B, I s A → Stl w.heap.size A B → I s B) (hR : ∀ A B, R A → Stl w.heap.size A B → R B)
    (h0 : I [] w) (A : α → Nat → Act) (G : α → World → World) (hG : ∀ x W, Below W.heap.size W (G x W))
    (hassign : ∀ (l : Nat) (x : α) (W : World) (K : Act → World → Prop), x ∈ xs → K (A x W.heap.size) (G x W) →
      assign.wpIn (Fence.wide.inRound l) n P (Exit.then K (fun _ _ _ => False)) { tmps := (ps.zip (encs x)).foldl (fun t (p, v) => t.setIfInBounds p v) a.tmps, defers := [] } W)
    (hbody : ∀ (l : Nat) (pre : List α) (x : α) (rest : List α) (b : Nat) (W0 W : World), xs = pre ++ x :: rest → w.heap.size ≤ b → b = W0.heap.size → W.heap.size = (G x W0).heap.size → (∀ k, b ≤ k → W.heap[k]? = (G x W0).heap[k]?) → I pre W →
      body.wpIn (Fence.wide.inRound l) n P (fun e _ W' => KeptS N w.heap.size W W' ∧ ((e = .normal ∧ I (pre ++ [x]) W') ∨ (e = .ret ∧ R W'))) (A x b) W)
    (hdone : ∀ D W, w.heap.size ≤ D → I xs W → W.heap[D]? = some (.deferred (some [])) → Q .normal (markD a D) W)
    (hstop : ∀ D W, w.heap.size ≤ D → R W → W.heap[D]? = some (.deferred (some [])) → Q .ret (markD a D) W) :
    (Code.rangeFunc g ps assign body).wpIn Fence.wide n P Q a w := by
  refine wpIn_rangeFunc ?_
  intro fn hfn
  obtain ⟨rec, hrec⟩ : ∃ rec : LoopState → Option Code → Loop, rec = fun st pe => { state := st, pending := pe, fn, tmps := a.tmps, params := ps, assign, body, defers := w.heap.size } := ⟨_, rfl⟩
  obtain ⟨W1, hW1⟩ : ∃ W1, (w.alloc (.deferred (some []))).alloc (.loop (rec .ready none)) = W1 := ⟨_, rfl⟩
  have hs1 : W1.heap.size = w.heap.size + 2 := by rw [← hW1]; simp
  have hL1 : W1.heap[w.heap.size + 1]? = some (.loop (rec .ready none)) := by
    rw [← hW1]
    have := World.alloc_heap_new (w.alloc (.deferred (some []))) (.loop (rec .ready none))
    rwa [World.size_alloc] at this
  have hD1 : W1.heap[w.heap.size]? = some (.deferred (some [])) := by
    rw [← hW1]
    exact (Below.heap_alloc _ _ _ (by simp)).trans (World.alloc_heap_new w _)
  have hb1 : Below w.heap.size w W1 := by
    rw [← hW1]
    exact ((Below.refl _ w).alloc (Nat.le_refl _) _).alloc (by simp) _
  have hI1 : I [] W1 := hI _ _ _ h0 (Stl.of_below hb1)
  refine ⟨w.heap.size + 1, [{ target := .collected w.heap.size, args := #[] }], W1, { target := .fn (.func gf) lb, args := #[.func (.yield (w.heap.size + 1)) #[] #[]] }, W1, gf,
    #[.func (.yield (w.heap.size + 1)) #[] #[]] ++ lb, W1, ?_, ?_, ?_, ?_, fun h => (by cases h), ?_⟩
  · rw [← hW1, hrec]
    exact run_enterLoop_outer _ _ _ _ _
  · simp only [resolve, hg]
    simp [go_sem]
  · intro f' _
    trivial
  · simp [invoke, go_sem, eg]
  · refine callsIn_wide.2 ?_
    have stay : ∀ {A B : World} {k : Nat} {o : Obj}, k < W1.heap.size → Stl W1.heap.size A B → A.heap[k]? = some o → B.heap[k]? = some o := fun hk t h => (t.1.block _ (Array.getElem?_eq_some_iff.1 h).1 (by omega)).trans h
    refine (hseq (w.heap.size + 1)
      (fun pre W => I pre W ∧ W.heap[w.heap.size + 1]? = some (.loop (rec .ready none)) ∧ W.heap[w.heap.size]? = some (.deferred (some [])))
      (fun W => R W ∧ W.heap[w.heap.size + 1]? = some (.loop (rec .done (some .ret))) ∧ W.heap[w.heap.size]? = some (.deferred (some [])))
      W1 hb1
      (fun s A B hs t => ⟨hI s A B hs.1 (t.mono (by omega)), stay (by omega) t hs.2.1, stay (by omega) t hs.2.2⟩)
      (fun A B hs t => ⟨hR A B hs.1 (t.mono (by omega)), stay (by omega) t hs.2.1, stay (by omega) t hs.2.2⟩)
      ?_ ⟨hI1, hL1, hD1⟩).mono ?_
    · rintro pre x rest W hx ⟨hi, hl, hk⟩
      have hlt : w.heap.size + 1 < W.heap.size := (Array.getElem?_eq_some_iff.1 hl).1
      have hy := run_yield (P := P) (args := encs x) hl (by rw [hrec]; exact hps x)
      rw [hrec] at hy
      refine yield_any (m := n) ⟨fn, _, assign, body, hy, roundIn_of_wpIn hfn (hassign _ x W _ (by rw [hx]; simp) ?_)⟩
      have hgs := (hG x W).size
      have hla : (G x W).heap[w.heap.size + 1]? = some (.loop (rec .ready none)) := ((hG x W).block _ hlt).trans hl
      have hka : (G x W).heap[w.heap.size]? = some (.deferred (some [])) := ((hG x W).block _ (by omega)).trans hk
      refine ⟨_, run_beginRound hla (by rw [hrec]), ?_⟩
      have hl2 : ((G x W).putObj (w.heap.size + 1) (.loop { rec .ready none with state := .busy })).heap[w.heap.size + 1]? = some (.loop { rec .ready none with state := .busy }) := World.putObj_heap_same (by omega)
      have hk2 : ((G x W).putObj (w.heap.size + 1) (.loop { rec .ready none with state := .busy })).heap[w.heap.size]? = some (.deferred (some [])) := (World.putObj_heap_other (by omega)).trans hka
      have hb2 : ∀ k, W.heap.size ≤ k → ((G x W).putObj (w.heap.size + 1) (.loop { rec .ready none with state := .busy })).heap[k]? = (G x W).heap[k]? := fun k hk => World.putObj_heap_other (by omega)
      have hb3 : ((G x W).putObj (w.heap.size + 1) (.loop { rec .ready none with state := .busy })).heap.size = (G x W).heap.size := by simp
      have kp : KeptS N W1.heap.size W ((G x W).putObj (w.heap.size + 1) (.loop { rec .ready none with state := .busy })) := (KeptS.of_below (hG x W)).trans (KeptS.putObj _ hla rfl (by omega))
      have hi2 : I pre ((G x W).putObj (w.heap.size + 1) (.loop { rec .ready none with state := .busy })) := hI _ _ _ hi ((Stl.of_below (hG x W)).trans (Stl.putObj _ hla rfl (by omega)))
      refine wpIn_mono (hbody _ pre x rest W.heap.size W _ hx (by omega) rfl hb3 hb2 hi2) ?_
      clear hb2 hb3
      generalize (G x W).putObj (w.heap.size + 1) (.loop { rec .ready none with state := .busy }) = W2 at *
      rintro e a3 W3 ⟨hk3, hp⟩
      have hlt2 : w.heap.size + 1 < W2.heap.size := (Array.getElem?_eq_some_iff.1 hl2).1
      have hl3 := hk3.up _ (by omega) _ rfl hl2
      have hD3 := hk3.up _ (Nat.le_refl _) _ rfl hk2
      have hlt3 : w.heap.size + 1 < W3.heap.size := (Array.getElem?_eq_some_iff.1 hl3).1
      have fin : ∀ (jump : Option Code), (Instr.endRound (w.heap.size + 1) jump).run P W3 = .ok (.bool jump.isNone) (W3.putObj (w.heap.size + 1) (.loop (rec (if jump.isNone then .ready else .done) jump))) := fun jump => by
        have := run_endRound (P := P) jump hl3
        rw [hrec] at this ⊢
        exact this
      have hl4 : ∀ o, (W3.putObj (w.heap.size + 1) o).heap[w.heap.size + 1]? = some o := fun o => World.putObj_heap_same hlt3
      have hD4 : ∀ o, (W3.putObj (w.heap.size + 1) o).heap[w.heap.size]? = some (.deferred (some [])) := fun o => (World.putObj_heap_other (by omega)).trans hD3
      rcases hp with ⟨rfl, hi3⟩ | ⟨rfl, hr3⟩
      · exact ⟨_, _, fin none, .inl ⟨rfl, ⟨hI _ _ _ hi3 (Stl.putObj _ hl3 rfl (by omega)), hl4 _, hD4 _⟩, kp.trans ((hk3.mono (by omega)).trans (KeptS.putObj _ hl3 rfl (by omega)))⟩⟩
      · exact ⟨_, _, fin (some .ret), .inr ⟨rfl, ⟨hR _ _ hr3 (Stl.putObj _ hl3 rfl (by omega)), hl4 _, hD4 _⟩, kp.trans ((hk3.mono (by omega)).trans (KeptS.putObj _ hl3 rfl (by omega)))⟩⟩
    · rintro e W2 ⟨⟨v, rfl⟩, (⟨hi, hl, hk⟩ | ⟨hr, hl, hk⟩)⟩
      · exact ⟨none, _, by have := run_endLoop (P := P) hl (by rw [hrec]; simp); rw [hrec] at this; exact this, hdone _ _ (Nat.le_refl _) (hI _ _ _ hi (Stl.putObj _ hl rfl (by omega))) ((World.putObj_heap_other (by omega)).trans hk)⟩
      · exact ⟨some .ret, _, by have := run_endLoop (P := P) hl (by rw [hrec]; simp); rw [hrec] at this; exact this, wpIn_ret (hstop _ _ (Nat.le_refl _) (hR _ _ hr (Stl.putObj _ hl rfl (by omega))) ((World.putObj_heap_other (by omega)).trans hk))⟩
theorem Kd.Rd.keptS {α : Type} {K : Kd α} {N : Nat → Prop} {n₁ : Nat} {w w' : World} {v : Value} {l : List α} (h : K.Rd w v l) (k : KeptS N n₁ w w') (hS : 0 < l.length → ∀ b, v.ownBlock = some b → N b) : K.Rd w' v l := by
  obtain ⟨A, c, rfl, hc, hr⟩ := h
  refine ⟨A, c, rfl, hc, fun h0 => ?_⟩
  obtain ⟨b, off, rfl, hlt, hcell⟩ := hr h0
  exact ⟨b, off, rfl, Nat.lt_of_lt_of_le hlt k.size, fun j u hj => k.cell (hcell j u hj) (hS h0 b rfl)⟩
theorem keptS_drewN {N : Nat → Prop} (n₁ : Nat) (w : World) (n : Nat) : KeptS N n₁ w (w.drewN n) := ⟨rfl, rfl, rfl, Nat.le_refl _, fun _ _ _ _ _ h => h, fun _ _ _ _ h => h⟩
end Go.Icz
end
section
namespace Go.Proofs.YtaoeabnpmpimgaaDoor
open Go.RowKit Go.Icz Go.Shelf
attribute [local go_sem] Oper.semAt_some
set_option maxRecDepth 100000
set_option maxHeartbeats 4000000
theorem pairsR1_givesS {N : Nat → Prop} (w0 : World) (bx : Nat) (v : Value) (l : List CRow) (hb : w0.cell? ⟨bx, 0, none⟩ = some v) (hbl : bx < w0.heap.size) (hr : KRw.Rd w0 v l) (hlen : l.length ≤ 4611686018427387904) (hSb : N bx) (hSr : 0 < l.length → ∀ b, v.ownBlock = some b → N b) :
    GivesS N Tryd.prog 61 #[.pointer (some ⟨bx, 0, none⟩)] (fun x : CRow × CRow => #[rowV x.1, rowV x.2]) (prs l 0) w0 := by
  intro r J Jx W hW hJ hJx hY h0
  refine (callsIn_wide (n := 3)).1 ?_
  refine callsIn_of_wp Tryd.func61 rfl trivial ?_ rfl
  have hWb : W.cell? ⟨bx, 0, none⟩ = some v := (hW.cell (p := ⟨bx, 0, none⟩) hbl).trans hb
  have hWr : KRw.Rd W v l := hr.below hW
  obtain ⟨A, c, rfl, hc, hcell⟩ := id hWr
  have hHW := hid hWr
  have HJ := hid hJ
  have HLn := hid hlen
  clear hr hb hWr hcell hJ hlen
  simp only [Tryd.ntmps61, List.size_toArray, List.length_cons, List.length_nil, Nat.reduceAdd, Nat.reduceSub, Array.replicate_succ, Array.replicate_zero, List.push_toArray, List.append_toArray, List.nil_append, List.cons_append]
  gi_wp2
  gi_loopw [3] (fun i wr => ∃ (j : Nat) (pre : List (CRow × CRow)), i = .int .i64 (j : Int) ∧ Hid (1 ≤ j) ∧ Hid (prs l 0 = pre ++ prs l (j - 1)) ∧ J pre wr ∧ KeptS N W.heap.size W wr)
    (fun i _ => l.length + 1 - (intOf i).toNat)
  case atStart => exact ⟨1, [], rfl, hid (Nat.le_refl _), hid rfl, h0, KeptS.refl _ _⟩
  case round =>
    obtain ⟨j, pre, rfl, hj1, hx, hJs, hkp⟩ := hrel
    have dbx := hkp.cell hWb hSb
    by_cases hjl : j < l.length
    · have hji : (j : Int) < (l.length : Int) := by omega
      have h1 := hj1.out
      obtain ⟨k, hk⟩ : ∃ k, j = k + 1 := ⟨j - 1, by omega⟩
      have hkl : k < l.length := by omega
      have hki : (k : Int) < (l.length : Int) := by omega
      have zk : IntKind.i64.wrap ((j : Int) - 1) = (k : Int) := by have := HLn.out; rw [IntKind.wrap_i64]; omega
      have zj : IntKind.i64.wrap ((j : Int) + 1) = (j : Int) + 1 := by have := HLn.out; rw [IntKind.wrap_i64]; omega
      obtain ⟨b, off, c2, hv, hlt, hcs⟩ := (hHW.out.keptS hkp hSr).ats hjl
      injection hv with hv1 _ hv2
      subst hv1
      subst hv2
      have dk0 : wr.cell? ⟨b, off + k * 3, none⟩ = some (.int .i64 l[k].seq) := hcs k (by omega) 0 _ (by decide) rfl
      have dk1 : wr.cell? ⟨b, off + k * 3 + 1, none⟩ = some (.int .i64 l[k].time) := hcs k (by omega) 1 _ (by decide) rfl
      have dk2 : wr.cell? ⟨b, off + k * 3 + 2, none⟩ = some (.string ⟨l[k].line.toArray⟩) := hcs k (by omega) 2 _ (by decide) rfl
      have dj0 : wr.cell? ⟨b, off + j * 3, none⟩ = some (.int .i64 l[j].seq) := hcs j (by omega) 0 _ (by decide) rfl
      have dj1 : wr.cell? ⟨b, off + j * 3 + 1, none⟩ = some (.int .i64 l[j].time) := hcs j (by omega) 1 _ (by decide) rfl
      have dj2 : wr.cell? ⟨b, off + j * 3 + 2, none⟩ = some (.string ⟨l[j].line.toArray⟩) := hcs j (by omega) 2 _ (by decide) rfl
      have hxk : prs l 0 = pre ++ (l[k], l[j]) :: prs l j := by
        rw [hx.out, show j - 1 = k by omega, prs_cons l k (by omega)]
        subst hk
        rfl
      have hx2 : Hid (prs l 0 = (pre ++ [(l[k], l[j])]) ++ prs l ((j + 1) - 1)) := hid (by rw [hxk]; simp)
      have HY := hid (fun n => yield_any (m' := 2) (hY pre (l[k], l[j]) _ (wr.drewN n) hxk (HJ.out _ _ _ hJs (stl_drewN _ _ _))))
      have HK := hid (And.intro hjl hkp)
      have HK1 := hid hk
      clear hx hj1 hxk hcs hY hbl hJs hkp hk h1 hW
      gi_wp2
      refine wpIn_region_any (by kernel_rfl) (wpIn_region_reads (m := 10) rfl (by kernel_rfl) ?_)
      simp only [List.take_succ_cons, List.take_zero, List.drop_succ_cons, List.drop_zero]
      repeat (gi_big_quiet_step (fail))
      refine wpQuietIn_nil ?_
      rintro _ ⟨nq, rfl⟩
      obtain ⟨fn, tmps, assign, body, hy, hR⟩ := HY.out nq
      try dsimp only at hy
      unfold rowV at hy
      gi_wp2
      refine hR.mono ?_
      rintro e W3 (⟨rfl, hJ3, hk3⟩ | ⟨rfl, hJx3, _⟩)
      · have HK3 := hid hk3
        clear hk3
        gi_wp2
        go_roundw
        case rel => exact ⟨j + 1, pre ++ [(l[k], l[j])], by go_num, hid (by omega), hx2, hJ3, HK.out.2.trans ((keptS_drewN _ _ _).trans (HK3.out.mono (Nat.le_refl _)))⟩
        case measure => have := HK.out.1; simp [intOf]; omega
      · gi_wp2
        refine bodyPost_ret (results_none rfl _ _ _) rfl ?_
        exact ⟨⟨_, rfl⟩, .inr hJx3⟩
    · have hji : ¬ (j : Int) < (l.length : Int) := by omega
      have he := hx.out
      rw [prs_nil l (j - 1) (by omega), List.append_nil] at he
      have HE := hid he
      clear he hx hj1
      gi_wp2
      go_end0
      exact ⟨⟨_, rfl⟩, .inl (by rw [HE.out]; exact hJs)⟩
end Go.Proofs.YtaoeabnpmpimgaaDoor
end
