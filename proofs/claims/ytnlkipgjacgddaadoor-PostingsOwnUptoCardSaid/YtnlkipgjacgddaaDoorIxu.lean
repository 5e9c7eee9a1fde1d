/-
  An Index's levels under 'under', a store, a delete: each as a step of the relation of who stands where. Conditions: those that each theorem names.
-/
import Derived.Test.YtnlkipgjacgddaaDoorAdd0
import Derived.Test.YtnlkipgjacgddaaDoorRem0
import Derived.Test.YtnlkipgjacgddaaDoorTx0
import Derived.Maps.OwnOps
import Derived.Maps.Views
namespace Go.Proofs.YtnlkipgjacgddaaDoor
open Go.RowKit Go.Maps Go.Icz Go.ChangeMaps Go.MapKept Go.WideShapes
set_option maxRecDepth 100000
abbrev NmMap := List UInt8 → Option Nat
abbrev VaMap := List UInt8 → List UInt8 → Option Nat
abbrev Rel3 := Int → List UInt8 → List UInt8 → Prop
def updN (N : NmMap) (nm : List UInt8) (b : Nat) : NmMap := fun x => if x = nm then some b else N x
def updV (V : VaMap) (nm va : List UInt8) (b : Nat) : VaMap := fun x y => if x = nm ∧ y = va then some b else V x y
theorem updN_same {N : NmMap} {nm : List UInt8} {b : Nat} (h : N nm = some b) : updN N nm b = N := by
  funext x
  unfold updN
  split
  · rename_i e; rw [e, h]
  · rfl
theorem updV_same {V : VaMap} {nm va : List UInt8} {b : Nat} (h : V nm va = some b) : updV V nm va b = V := by
  funext x y
  unfold updV
  split
  · rename_i e; rw [e.1, e.2, h]
  · rfl
theorem Ids.more {B : Nat} {w : World} {b1 n m : Nat} {N : NmMap} {V : VaMap} {D1 : DataW Unit} {Pr : Rel3} (h : Ids B w b1 n N V D1 Pr) (hm : n ≤ m) : Ids B w b1 m N V D1 Pr :=
  { base := h.base, top := h.top.mono hm, topAt := h.topAt, topHas := h.topHas, mid := fun nm b e => by
      obtain ⟨h1, h2, D2, h3, h4, h5⟩ := h.mid nm b e
      exact ⟨h1, h2, D2, h3.mono hm, h4, h5⟩
    midNo := h.midNo, low := fun nm va b e => by
      obtain ⟨h1, h2, D3, h3, h4⟩ := h.low nm va b e
      exact ⟨h1, h2, D3, h3.mono hm, h4⟩
    lowNo := h.lowNo, oneN := h.oneN, oneV := h.oneV, apart := h.apart }
theorem Ids.grown {B : Nat} {w w' : World} {b1 n : Nat} {N : NmMap} {V : VaMap} {D1 : DataW Unit} {Pr : Rel3} (h : Ids B w b1 n N V D1 Pr) {k : Nat} (hg : w.grownBy w' (some k)) (h1 : b1 ≠ k) (hN : ∀ nm b, N nm = some b → b ≠ k) (hV : ∀ nm va b, V nm va = some b → b ≠ k) : Ids B w' b1 n N V D1 Pr :=
  { base := h.base, top := h.top.kept hg (by simpa using h1), topAt := h.topAt, topHas := h.topHas, mid := fun nm b e => by
      obtain ⟨g1, g2, D2, h3, h4, h5⟩ := h.mid nm b e
      exact ⟨g1, g2, D2, h3.kept hg (by simpa using hN nm b e), h4, h5⟩
    midNo := h.midNo, low := fun nm va b e => by
      obtain ⟨g1, g2, D3, h3, h4⟩ := h.low nm va b e
      exact ⟨g1, g2, D3, h3.kept hg (by simpa using hV nm va b e), h4⟩
    lowNo := h.lowNo, oneN := h.oneN, oneV := h.oneV, apart := h.apart }
theorem blkD_some {o : Option Nat} {b : Nat} (h : blkD o = .lit (.int .i64 b)) : o = some b := by
  cases o with
  | none => cases h
  | some c => unfold blkD at h; simp at h; rw [show c = b by omega]
theorem blkD_none {o : Option Nat} (h : blkD o = .nil) : o = none := by
  cases o with
  | none => rfl
  | some c => cases h
theorem bsz (nm : List UInt8) (h : nm.length ≤ 9223372036854775807) : (⟨nm.toArray⟩ : ByteArray).size ≤ maxLen := by
  show nm.toArray.size ≤ maxLen
  unfold maxLen
  simpa using h
theorem underN_ids (w : World) (b1 n : Nat) (N : NmMap) (V : VaMap) (D1 : DataW Unit) (Pr : Rel3) (h : Ids 0 w b1 n N V D1 Pr) (nm : List UInt8) (hl : nm.length ≤ 9223372036854775807) (hn : n < maxLen) :
    Calls Tryd.prog 24 #[.map (some b1), .string ⟨nm.toArray⟩] w fun e w' =>
      ∃ bn D1', e = .returned (.map (some bn)) ∧ Ids 0 w' b1 (n + 1) (updN N nm bn) V D1' Pr ∧ (N nm = some bn ∨ (N nm = none ∧ bn = w.heap.size)) ∧ w.grownBy w' (some b1) := by
  refine (underN_is w b1 n D1 ⟨nm.toArray⟩ (bsz nm hl) hn h.top).mono ?_
  have ht := h.topAt nm
  rintro e w' (⟨b', hd, rfl, rfl⟩ | ⟨hd, rfl, hown, htu⟩)
  · have hN : N nm = some b' := blkD_some (ht.symm.trans hd)
    exact ⟨b', D1, rfl, by rw [updN_same hN]; exact h.more (by omega), .inl hN, World.grownBy.refl _ _⟩
  · have hN : N nm = none := blkD_none (ht.symm.trans hd)
    refine ⟨w.heap.size, _, rfl, h.name nm hN (Nat.zero_le _) hown htu, .inr ⟨hN, rfl⟩, ?_⟩
    exact World.grownBy.trans (World.grownBy_alloc w _ (some b1)) htu.grown
theorem underV_ids (w : World) (b1 n : Nat) (N : NmMap) (V : VaMap) (D1 : DataW Unit) (Pr : Rel3) (h : Ids 0 w b1 n N V D1 Pr) (nm va : List UInt8) (bn : Nat) (hN : N nm = some bn) (hl : va.length ≤ 9223372036854775807) (hn : n < maxLen) :
    Calls Tryd.prog 23 #[.map (some bn), .string ⟨va.toArray⟩] w fun e w' =>
      ∃ bs, e = .returned (.map (some bs)) ∧ Ids 0 w' b1 (n + 1) N (updV V nm va bs) D1 Pr ∧ (V nm va = some bs ∨ (V nm va = none ∧ bs = w.heap.size)) ∧ w.grownBy w' (some bn) := by
  obtain ⟨_, _, D2, ho2, hD2, hH2⟩ := h.mid nm bn hN
  refine (underV_is w bn n D2 ⟨va.toArray⟩ (bsz va hl) hn ho2).mono ?_
  have ht := hD2 va
  rintro e w' (⟨b', hd, rfl, rfl⟩ | ⟨hd, rfl, hown, htu⟩)
  · have hV : V nm va = some b' := blkD_some (ht.symm.trans hd)
    exact ⟨b', rfl, by rw [updV_same hV]; exact h.more (by omega), .inl hV, World.grownBy.refl _ _⟩
  · have hV : V nm va = none := blkD_none (ht.symm.trans hd)
    refine ⟨w.heap.size, rfl, h.value nm bn hN va hV D2 ho2 hD2 hH2 (Nat.zero_le _) hown htu, .inr ⟨hV, rfl⟩, ?_⟩
    exact World.grownBy.trans (World.grownBy_alloc w _ (some bn)) htu.grown
/-- A number comes in under a name and a value. -/
theorem put_ids (w : World) (b1 n : Nat) (N : NmMap) (V : VaMap) (D1 : DataW Unit) (Pr : Rel3) (h : Ids 0 w b1 n N V D1 Pr) (nm va : List UInt8) (bs : Nat) (hV : V nm va = some bs) (k : Int) (hk : (Lit.int .i64 k).wf = true) (hn : n < maxLen) :
    ∃ w2, (Instr.mapUpdate 54 (.map (some bs)) (.int .i64 k) (.agg #[])).run Tryd.prog w = .ok () w2 ∧ Ids 0 w2 b1 (n + 1) N V D1 (fun j x y => Pr j x y ∨ (j = k ∧ x = nm ∧ y = va)) ∧ w.grownBy w2 (some bs) := by
  obtain ⟨_, _, D3, ho3, hD3⟩ := h.low nm va bs hV
  obtain ⟨w2, hup, hown2, htu⟩ := ho3.store (int_keyed Tryd.underlying3) Tryd.underlying54 hn (keyI hk) (val := .agg #[]) (d := .agg []) (ps := []) rfl
  exact ⟨w2, hup, h.put nm va k bs hV D3 ho3 hD3 hown2 htu, htu.grown⟩
/-- A number goes from under a name and a value. -/
theorem take_ids (w : World) (b1 n : Nat) (N : NmMap) (V : VaMap) (D1 : DataW Unit) (Pr : Rel3) (h : Ids 0 w b1 n N V D1 Pr) (nm va : List UInt8) (bs : Nat) (hV : V nm va = some bs) (k : Int) (hk : (Lit.int .i64 k).wf = true) (ty : TypeId) :
    ∃ w2, (Builtin.delete_ #[54, 3] ty #[.map (some bs), .int .i64 k]).run Tryd.prog w = .ok (.tuple #[]) w2 ∧ Ids 0 w2 b1 n N V D1 (fun j x y => Pr j x y ∧ ¬(j = k ∧ x = nm ∧ y = va)) ∧ w.grownBy w2 (some bs) := by
  obtain ⟨_, _, D3, ho3, hD3⟩ := h.low nm va bs hV
  obtain ⟨w2, hrun, hown2, htu⟩ := ho3.drop (int_keyed Tryd.underlying3) Tryd.underlying54 (keyI hk) ty
  exact ⟨w2, hrun, h.take nm va k bs hV D3 ho3 hD3 hown2 htu, htu.grown⟩
theorem dropV_ids (w : World) (b1 n : Nat) (N : NmMap) (V : VaMap) (D1 : DataW Unit) (Pr : Rel3) (h : Ids 0 w b1 n N V D1 Pr) (nm va : List UInt8) (bn : Nat) (hN : N nm = some bn) (hno : ∀ k, ¬ Pr k nm va) (hl : va.length ≤ 9223372036854775807) (ty : TypeId) :
    ∃ w2, (Builtin.delete_ #[53, 9] ty #[.map (some bn), .string ⟨va.toArray⟩]).run Tryd.prog w = .ok (.tuple #[]) w2 ∧ Ids 0 w2 b1 n N (fun x y => if x = nm ∧ y = va then none else V x y) D1 Pr ∧ w.grownBy w2 (some bn) := by
  obtain ⟨_, _, D2, ho2, hD2, hH2⟩ := h.mid nm bn hN
  obtain ⟨w2, hrun, hown2, htu⟩ := ho2.drop (string_keyed Tryd.underlying9) Tryd.underlying53 (keyS (bsz va hl)) ty
  exact ⟨w2, hrun, h.dropValue nm va bn hN hno D2 hD2 hH2 hown2 htu, htu.grown⟩
theorem dropN_ids (w : World) (b1 n : Nat) (N : NmMap) (V : VaMap) (D1 : DataW Unit) (Pr : Rel3) (h : Ids 0 w b1 n N V D1 Pr) (nm : List UInt8) (hno : ∀ y, V nm y = none) (hl : nm.length ≤ 9223372036854775807) (ty : TypeId) :
    ∃ w2 D1', (Builtin.delete_ #[47, 9] ty #[.map (some b1), .string ⟨nm.toArray⟩]).run Tryd.prog w = .ok (.tuple #[]) w2 ∧ Ids 0 w2 b1 n (fun x => if x = nm then none else N x) V D1' Pr ∧ w.grownBy w2 (some b1) := by
  obtain ⟨w2, hrun, hown2, htu⟩ := h.top.drop (string_keyed Tryd.underlying9) Tryd.underlying47 (keyS (bsz nm hl)) ty
  exact ⟨w2, _, hrun, h.dropName nm hno hown2 htu, htu.grown⟩
/-- No entry: no key. -/
theorem size_zero {H : Type} {P : Program} {k : TypeId} {R : Value → Option (DataW H × List MemPlace)} {w : World} {b n : Nat} {D : DataW H} (h : w.ownsMap P k R b n D) (h0 : Maps.size D = 0) (kl : Lit) : Maps.has D kl = false := by
  obtain ⟨es, rfl, _⟩ := h.keysOf
  have : es = [] := by simpa [Maps.size] using h0
  subst this
  simp [Maps.has]
theorem size_int {P : Program} {k : TypeId} {H : Type} {R : Value → Option (DataW H × List MemPlace)} {w : World} {b n : Nat} {D : DataW H} (h : w.ownsMap P k R b n D) (hk : P.underlying k = some (.int .i64)) (h0 : Maps.size D ≠ 0) : ∃ x : Int, (Lit.int .i64 x).wf = true ∧ Maps.has D (.int .i64 x) = true := by
  obtain ⟨es, rfl, hko⟩ := h.keysOf
  cases es with
  | nil => simp [Maps.size] at h0
  | cons p t =>
    obtain ⟨v, hv⟩ := hko p (List.mem_cons_self ..)
    obtain ⟨x, _, hx, hw⟩ := Maps.keyOf_i64 hk hv
    exact ⟨x, hw, by rw [has_eq, List.any_eq_true]; exact ⟨p, List.mem_cons_self .., by rw [hx]; simp [Lit.sameKey]⟩⟩
theorem size_str {P : Program} {k : TypeId} {H : Type} {R : Value → Option (DataW H × List MemPlace)} {w : World} {b n : Nat} {D : DataW H} (h : w.ownsMap P k R b n D) (hk : P.underlying k = some .string) (h0 : Maps.size D ≠ 0) : ∃ x : List UInt8, Maps.has D (.string x) = true := by
  obtain ⟨es, rfl, hko⟩ := h.keysOf
  cases es with
  | nil => simp [Maps.size] at h0
  | cons p t =>
    obtain ⟨v, hv⟩ := hko p (List.mem_cons_self ..)
    obtain ⟨x, _, hx, hw⟩ := Maps.keyOf_str hk hv
    exact ⟨x, by rw [has_eq, List.any_eq_true]; exact ⟨p, List.mem_cons_self .., by rw [hx]; simp [Lit.sameKey]⟩⟩
end Go.Proofs.YtnlkipgjacgddaaDoor
