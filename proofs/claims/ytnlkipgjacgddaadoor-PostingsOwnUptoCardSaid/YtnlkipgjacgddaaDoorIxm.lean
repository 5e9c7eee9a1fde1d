/-
  An Index in memory: which blocks are its own, who has which labels; a frame in which maps alone turn. No condition.
-/
import Derived.Test.YtnlkipgjacgddaaDoorIxu
namespace Go.Proofs.YtnlkipgjacgddaaDoor
open Go.RowKit Go.Maps Go.Icz Go.ChangeMaps Go.MapKept Go.WideShapes
set_option maxRecDepth 100000
def isMapAt (w : World) (k : Nat) : Prop := ∃ es clock, w.heap[k]? = some (.map es clock)
theorem ownsMap_at {H : Type} {P : Program} {k : TypeId} {R : Value → Option (DataW H × List MemPlace)} {w : World} {b n : Nat} {D : DataW H} (h : w.ownsMap P k R b n D) : isMapAt w b := by
  obtain ⟨es, clock, hb, _⟩ := h
  exact ⟨es, clock, hb⟩
theorem isMapAt.lt {w : World} {k : Nat} (h : isMapAt w k) : k < w.heap.size := by
  obtain ⟨es, clock, hb⟩ := h
  exact (Array.getElem?_eq_some_iff.1 hb).1
/-- Maps of T alone may have turned. -/
structure Ct (T : Nat → Prop) (w w' : World) : Prop where
  os : w'.os = w.os
  tape : w'.tape = w.tape
  output : w'.output = w.output
  size : w.heap.size ≤ w'.heap.size
  block : ∀ k, k < w.heap.size → (T k → ¬ isMapAt w k) → w'.heap[k]? = w.heap[k]?
theorem Ct.of_below {T : Nat → Prop} {w w' : World} (h : Below w.heap.size w w') : Ct T w w' := ⟨h.os, h.tape, h.output, h.size, fun k hk _ => h.block k hk⟩
theorem Ct.refl (T : Nat → Prop) (w : World) : Ct T w w := .of_below (Below.refl _ _)
theorem Ct.trans {T : Nat → Prop} {a b c : World} (h : Ct T a b) (k : Ct T b c) : Ct T a c :=
  ⟨k.os.trans h.os, k.tape.trans h.tape, k.output.trans h.output, Nat.le_trans h.size k.size, fun j hj hn => by
    have e := h.block j hj hn
    refine (k.block j (Nat.lt_of_lt_of_le hj h.size) (fun t m => ?_)).trans e
    obtain ⟨es, cl, hm⟩ := m
    exact hn t ⟨es, cl, e ▸ hm⟩⟩
theorem Ct.of_grown {T : Nat → Prop} {w w' : World} {k : Nat} (hg : w.grownBy w' (some k)) (hT : T k) (hm : isMapAt w k) : Ct T w w' :=
  ⟨hg.os, hg.tape, hg.output, hg.size, fun j hj hn => hg.block j hj (fun e => by injection e with e; subst e; exact hn hT hm)⟩
theorem Ct.cell {T : Nat → Prop} {w w' : World} (h : Ct T w w') {p : Addr} {x : Value} (hc : w.cell? p = some x) : w'.cell? p = some x := by
  have hb : p.block < w.heap.size ∧ ¬ isMapAt w p.block := by
    unfold World.cell? at hc
    constructor
    · rcases Nat.lt_or_ge p.block w.heap.size with h1 | h1
      · exact h1
      · rw [Array.getElem?_eq_none (by omega)] at hc
        cases hc
    · rintro ⟨es, cl, hm⟩
      rw [hm] at hc
      cases hc
  have e := h.block p.block hb.1 (fun _ => hb.2)
  unfold World.cell? at hc ⊢
  rw [e]
  exact hc
theorem Ct.rdL {T : Nat → Prop} {w w' : World} (h : Ct T w w') {v : Value} {l : List Lab} (hr : RdL w v l) : RdL w' v l := by
  obtain ⟨A, c, hv, hc, hr⟩ := hr
  refine ⟨A, c, hv, hc, fun h0 => ?_⟩
  obtain ⟨b, off, hA, hlt, hcell⟩ := hr h0
  exact ⟨b, off, hA, Nat.lt_of_lt_of_le hlt h.size, fun j hj => ⟨h.cell (hcell j hj).1, h.cell (hcell j hj).2⟩⟩
theorem Ct.at {T : Nat → Prop} {w w' : World} (h : Ct T w w') {v : Value} {b0 b1 : Nat} (hi : IdxAt w v b0 b1) : IdxAt w' v b0 b1 := by
  obtain ⟨g, hv, hg, h0, h1⟩ := hi
  exact ⟨g, hv, Nat.lt_of_lt_of_le hg h.size, h.cell h0, h.cell h1⟩
theorem Ct.owns {T : Nat → Prop} {H : Type} {P : Program} {k : TypeId} {R : Value → Option (DataW H × List MemPlace)} {w w' : World} {b n : Nat} {D : DataW H} (h : Ct T w w') (ho : w.ownsMap P k R b n D) (hb : ¬ T b) : w'.ownsMap P k R b n D := by
  have hl := ho.lt
  obtain ⟨es, clock, h1, h2, h3, h4⟩ := ho
  exact ⟨es, clock, (h.block b hl (fun t => absurd t hb)).trans h1, h2, h3, h4⟩
/-- Which number has which labels, as pairs. -/
def PrM (M : Int → Option (List Lab)) : Rel3 := fun k nm va => ∃ l, M k = some l ∧ (nm, va) ∈ l
def updM (M : Int → Option (List Lab)) (k : Int) (o : Option (List Lab)) : Int → Option (List Lab) := fun j => if j = k then o else M j
theorem Ids.congr {B : Nat} {w : World} {b1 n : Nat} {N : NmMap} {V : VaMap} {D1 : DataW Unit} {Pr Pr' : Rel3} (h : Ids B w b1 n N V D1 Pr) (e : ∀ k x y, Pr k x y ↔ Pr' k x y) : Ids B w b1 n N V D1 Pr' :=
  { base := h.base, top := h.top, topAt := h.topAt, topHas := h.topHas, mid := h.mid, midNo := h.midNo, low := fun nm va b q => by
      obtain ⟨h1, h2, D3, h3, h4⟩ := h.low nm va b q
      exact ⟨h1, h2, D3, h3, fun k hk => (h4 k hk).trans (e k nm va)⟩
    lowNo := fun nm va q k hk => h.lowNo nm va q k ((e k nm va).2 hk), oneN := h.oneN, oneV := h.oneV, apart := h.apart }
theorem Full.congr {N : NmMap} {V : VaMap} {Pr Pr' : Rel3} (h : Full N V Pr) (e : ∀ k x y, Pr k x y ↔ Pr' k x y) : Full N V Pr' :=
  ⟨h.1, fun nm va q => by obtain ⟨k, hk, hp⟩ := h.2 nm va q; exact ⟨k, hk, (e k nm va).1 hp⟩⟩
/-- Where the levels' blocks lie. -/
def Lv (T : Nat → Prop) (b0 : Nat) (N : NmMap) (V : VaMap) : Prop := (∀ nm b, N nm = some b → b ≠ b0 ∧ T b) ∧ ∀ nm va b, V nm va = some b → b ≠ b0 ∧ T b
/-- The labels' slices. -/
def LbM (T : Nat → Prop) (w : World) (D0 : DataW Unit) (M : Int → Option (List Lab)) : Prop :=
  (∀ k, (Lit.int .i64 k).wf = true → (Maps.has D0 (.int .i64 k) = true ↔ M k ≠ none)) ∧
  ∀ k l, M k = some l → (Lit.int .i64 k).wf = true ∧ ∃ u d p, rSl u = some (d, p) ∧ D0.atKey (.int .i64 k) .nil = d ∧ RdL w u l ∧ (∀ b o m c, u = .slice (some ⟨b, o, none⟩) m c → T b) ∧ rightS l = true ∧ 0 ≤ k ∧ k < 1099511627776
/-- An Index: its blocks are all T's. -/
structure IxI (T : Nat → Prop) (w : World) (v : Value) (b0 b1 n : Nat) (D0 : DataW Unit) (N : NmMap) (V : VaMap) (D1 : DataW Unit) (M : Int → Option (List Lab)) : Prop where
  hd : IdxAt w v b0 b1
  ter : T b0 ∧ T b1 ∧ b0 ≠ b1 ∧ ∀ g, v = .pointer (some ⟨g, 0, none⟩) → T g
  dom : w.ownsMap Tryd.prog 3 rSl b0 n D0
  ids : Ids 0 w b1 n N V D1 (PrM M)
  full : Full N V (PrM M)
  lv : Lv T b0 N V
  lab : LbM T w D0 M
  few : Maps.size D0 ≤ 65536
def Ix (T : Nat → Prop) (w : World) (v : Value) (n : Nat) (M : Int → Option (List Lab)) : Prop := ∃ b0 b1 D0 N V D1, IxI T w v b0 b1 n D0 N V D1 M
theorem wf_in {k : Int} (h1 : -9223372036854775808 ≤ k) (h2 : k ≤ 9223372036854775807) : (Lit.int .i64 k).wf = true := by
  simp [Lit.wf, IntKind.min, IntKind.max, IntKind.signed, IntKind.bits]
  omega
theorem wf_of {k : Int} (h0 : 0 ≤ k) (h1 : k < 1099511627776) : (Lit.int .i64 k).wf = true := wf_in (by omega) (by omega)
theorem rightS_pos {l : List Lab} (h : rightS l = true) : 1 ≤ l.length ∧ l.length ≤ 16 := by
  unfold rightS at h
  rw [Bool.and_eq_true] at h
  exact of_decide_eq_true h.1
/-- A pair comes in. -/
theorem Full.put {N : NmMap} {V : VaMap} {Pr : Rel3} {nm va : List UInt8} {k : Int} {bn bs : Nat} (h : Full N V Pr) (hk : (Lit.int .i64 k).wf = true) : Full (updN N nm bn) (updV V nm va bs) (fun j x y => Pr j x y ∨ (j = k ∧ x = nm ∧ y = va)) := by
  constructor
  · intro x hx
    by_cases e : x = nm
    · exact ⟨va, by unfold updV; rw [if_pos ⟨e, rfl⟩]; simp⟩
    · have : N x ≠ none := by unfold updN at hx; rwa [if_neg e] at hx
      obtain ⟨y, hy⟩ := h.1 x this
      exact ⟨y, by unfold updV; rwa [if_neg (fun c => e c.1)]⟩
  · intro x y hxy
    by_cases e : x = nm ∧ y = va
    · exact ⟨k, hk, .inr ⟨rfl, e.1, e.2⟩⟩
    · have : V x y ≠ none := by unfold updV at hxy; rwa [if_neg e] at hxy
      obtain ⟨j, hj, hp⟩ := h.2 x y this
      exact ⟨j, hj, .inl hp⟩
theorem Lv.put {T : Nat → Prop} {b0 : Nat} {N : NmMap} {V : VaMap} {nm va : List UInt8} {bn bs : Nat} (h : Lv T b0 N V) (hn : bn ≠ b0 ∧ T bn) (hs : bs ≠ b0 ∧ T bs) : Lv T b0 (updN N nm bn) (updV V nm va bs) := by
  constructor
  · intro x b e
    unfold updN at e
    split at e
    · injection e with e; subst e; exact hn
    · exact h.1 x b e
  · intro x y b e
    unfold updV at e
    split at e
    · injection e with e; subst e; exact hs
    · exact h.2 x y b e
end Go.Proofs.YtnlkipgjacgddaaDoor
