/-
  Who stands under which name and value: an Index's three levels of maps, as one relation. No condition.
  What postings.New answers. No condition.
-/
import Derived.Test.YtnlkipgjacgddaaDoorLabs
section
namespace Go.Proofs.YtnlkipgjacgddaaDoor
open Go.RowKit Go.Maps Go.Icz Go.ChangeMaps Go.MapKept Go.WideShapes
/-- A block's number as an element's datum. -/
def blkD : Option Nat → DataW Unit
  | none => .nil
  | some b => .lit (.int .i64 b)
/-- The three levels: the names' map in block b1; under each name a map of values; under each value a set of numbers. -/
structure Ids (B : Nat) (w : World) (b1 n : Nat) (N : List UInt8 → Option Nat) (V : List UInt8 → List UInt8 → Option Nat) (D1 : DataW Unit) (Pr : Int → List UInt8 → List UInt8 → Prop) : Prop where
  base : B ≤ b1
  top : w.ownsMap Tryd.prog 9 rMap b1 n D1
  topAt : ∀ nm, D1.atKey (.string nm) .nil = blkD (N nm)
  topHas : ∀ nm, Maps.has D1 (.string nm) = true → N nm ≠ none
  mid : ∀ nm b, N nm = some b → B ≤ b ∧ b ≠ b1 ∧ ∃ D2, w.ownsMap Tryd.prog 9 rMap b n D2 ∧ (∀ va, D2.atKey (.string va) .nil = blkD (V nm va)) ∧ ∀ va, Maps.has D2 (.string va) = true → V nm va ≠ none
  midNo : ∀ nm, N nm = none → ∀ va, V nm va = none
  low : ∀ nm va b, V nm va = some b → B ≤ b ∧ b ≠ b1 ∧ ∃ D3 : DataW Unit, w.ownsMap Tryd.prog 3 unitElem b n D3 ∧ ∀ k, (Lit.int .i64 k).wf = true → (Maps.has D3 (.int .i64 k) = true ↔ Pr k nm va)
  lowNo : ∀ nm va, V nm va = none → ∀ k, ¬ Pr k nm va
  oneN : ∀ nm nm' b, N nm = some b → N nm' = some b → nm = nm'
  oneV : ∀ nm va nm' va' b, V nm va = some b → V nm' va' = some b → nm = nm' ∧ va = va'
  apart : ∀ nm b nm' va b', N nm = some b → V nm' va = some b' → b ≠ b'
/-- No level is empty. -/
def Full (N : List UInt8 → Option Nat) (V : List UInt8 → List UInt8 → Option Nat) (Pr : Int → List UInt8 → List UInt8 → Prop) : Prop :=
  (∀ nm, N nm ≠ none → ∃ va, V nm va ≠ none) ∧ ∀ nm va, V nm va ≠ none → ∃ k, (Lit.int .i64 k).wf = true ∧ Pr k nm va
theorem Ids.below {B : Nat} {w w' : World} {b1 n : Nat} {N : List UInt8 → Option Nat} {V : List UInt8 → List UInt8 → Option Nat} {D1 : DataW Unit} {Pr : Int → List UInt8 → List UInt8 → Prop}
    (h : Ids B w b1 n N V D1 Pr) (hb : Below w.heap.size w w') : Ids B w' b1 n N V D1 Pr where
  base := h.base
  top := ownsMap_below h.top hb
  topAt := h.topAt
  topHas := h.topHas
  mid nm b e := by
    obtain ⟨h1, h2, D2, h3, h4, h5⟩ := h.mid nm b e
    exact ⟨h1, h2, D2, ownsMap_below h3 hb, h4, h5⟩
  midNo := h.midNo
  low nm va b e := by
    obtain ⟨h1, h2, D3, h3, h4⟩ := h.low nm va b e
    exact ⟨h1, h2, D3, ownsMap_below h3 hb, h4⟩
  lowNo := h.lowNo
  oneN := h.oneN
  oneV := h.oneV
  apart := h.apart
theorem Ids.made (w : World) {B : Nat} (hB : B ≤ w.heap.size) : Ids B (w.alloc (.map #[] 0)) w.heap.size 0 (fun _ => none) (fun _ _ => none) (.map []) (fun _ _ _ => False) where
  base := hB
  top := World.ownsMap_made w _ _ _
  topAt nm := rfl
  topHas nm e := by simp [Maps.has] at e
  mid nm b e := by cases e
  midNo _ _ _ := rfl
  low nm va b e := by cases e
  lowNo _ _ _ _ h := h
  oneN _ _ _ e := by cases e
  oneV _ _ _ _ _ e := by cases e
  apart _ _ _ _ _ e := by cases e
/-- A name comes in, with no value yet. -/
theorem Ids.name {B : Nat} {w w2 : World} {b1 n : Nat} {N : List UInt8 → Option Nat} {V : List UInt8 → List UInt8 → Option Nat} {D1 : DataW Unit} {Pr : Int → List UInt8 → List UInt8 → Prop}
    (h : Ids B w b1 n N V D1 Pr) (nm : List UInt8) (hN : N nm = none) (hB : B ≤ w.heap.size) (hown : w2.ownsMap Tryd.prog 9 rMap b1 (n + 1) (D1.put (.string nm) (.lit (.int .i64 w.heap.size)))) (ht : (w.alloc (.map #[] 0)).mapTurned w2 b1) :
    Ids B w2 b1 (n + 1) (fun x => if x = nm then some w.heap.size else N x) V (D1.put (.string nm) (.lit (.int .i64 w.heap.size))) Pr := by
  have hk : ∀ {kt : TypeId} {R : Value → Option (DataW Unit × List MemPlace)} {b m : Nat} {D : DataW Unit}, w.ownsMap Tryd.prog kt R b m D → b ≠ b1 → w2.ownsMap Tryd.prog kt R b (m + 1) D := fun g hb =>
    ((g.alloc _).kept ht.grown (by simpa using hb)).mono (by omega)
  have hlt : b1 < w.heap.size := h.top.lt
  have hNlt : ∀ x b, N x = some b → b < w.heap.size := fun x b e => by
    obtain ⟨_, _, D2, g, _⟩ := h.mid x b e
    exact g.lt
  have hVlt : ∀ x va b, V x va = some b → b < w.heap.size := fun x va b e => by
    obtain ⟨_, _, D2, g, _⟩ := h.low x va b e
    exact g.lt
  refine { base := h.base, top := hown, topAt := fun x => ?_, topHas := fun x e => ?_, mid := fun x b e => ?_, midNo := fun x e => ?_, low := fun x va b e => ?_, lowNo := h.lowNo, oneN := fun x y b e1 e2 => ?_, oneV := h.oneV, apart := fun x b y va b' e1 e2 => ?_ }
  · by_cases hx : x = nm
    · subst hx
      rw [if_pos rfl]
      exact Maps.atKey_put_same h.top.isMap (k := .string x) trivial _ _
    · rw [if_neg hx, Maps.atKey_put_other (by simpa using hx)]
      exact h.topAt x
  · by_cases hx : x = nm
    · rw [if_pos hx]; simp
    · rw [if_neg hx]
      rw [Maps.has_put_other (by simpa using hx)] at e
      exact h.topHas x e
  · by_cases hx : x = nm
    · subst hx
      rw [if_pos rfl] at e
      obtain rfl : w.heap.size = b := by simpa using e
      have hne : w.heap.size ≠ b1 := by omega
      refine ⟨hB, hne, .map [], ((World.ownsMap_made w _ _ _).kept ht.grown (by simpa using hne)).mono (by omega), fun va => ?_, fun va e => by simp [Maps.has] at e⟩
      rw [h.midNo x hN va]
      rfl
    · rw [if_neg hx] at e
      obtain ⟨g1, g2, D2, g3, g4, g5⟩ := h.mid x b e
      exact ⟨g1, g2, D2, hk g3 g2, g4, g5⟩
  · by_cases hx : x = nm
    · rw [if_pos hx] at e; cases e
    · rw [if_neg hx] at e; exact h.midNo x e
  · obtain ⟨g1, g2, D3, g3, g4⟩ := h.low x va b e
    exact ⟨g1, g2, D3, hk g3 g2, g4⟩
  · by_cases hx : x = nm
    · by_cases hy : y = nm
      · rw [hx, hy]
      · rw [if_pos hx] at e1
        rw [if_neg hy] at e2
        have := hNlt y b e2
        have e3 : w.heap.size = b := by simpa using e1
        omega
    · rw [if_neg hx] at e1
      by_cases hy : y = nm
      · rw [if_pos hy] at e2
        have := hNlt x b e1
        have e3 : w.heap.size = b := by simpa using e2
        omega
      · rw [if_neg hy] at e2
        exact h.oneN x y b e1 e2
  · have hv := hVlt y va b' e2
    by_cases hx : x = nm
    · rw [if_pos hx] at e1
      have e3 : w.heap.size = b := by simpa using e1
      omega
    · rw [if_neg hx] at e1
      exact h.apart x b y va b' e1 e2
/-- A value of a name comes in, with no number yet. -/
theorem Ids.value {B : Nat} {w w2 : World} {b1 n : Nat} {N : List UInt8 → Option Nat} {V : List UInt8 → List UInt8 → Option Nat} {D1 : DataW Unit} {Pr : Int → List UInt8 → List UInt8 → Prop}
    (h : Ids B w b1 n N V D1 Pr) (nm : List UInt8) (bn : Nat) (hN : N nm = some bn) (va : List UInt8) (hV : V nm va = none) (D2 : DataW Unit) (ho2 : w.ownsMap Tryd.prog 9 rMap bn n D2) (hD2 : ∀ y, D2.atKey (.string y) .nil = blkD (V nm y)) (hH2 : ∀ y, Maps.has D2 (.string y) = true → V nm y ≠ none)
    (hB : B ≤ w.heap.size) (hown : w2.ownsMap Tryd.prog 9 rMap bn (n + 1) (D2.put (.string va) (.lit (.int .i64 w.heap.size)))) (ht : (w.alloc (.map #[] 0)).mapTurned w2 bn) :
    Ids B w2 b1 (n + 1) N (fun x y => if x = nm ∧ y = va then some w.heap.size else V x y) D1 Pr := by
  have hk : ∀ {kt : TypeId} {R : Value → Option (DataW Unit × List MemPlace)} {b m : Nat} {D : DataW Unit}, w.ownsMap Tryd.prog kt R b m D → b ≠ bn → w2.ownsMap Tryd.prog kt R b (m + 1) D := fun g hb =>
    ((g.alloc _).kept ht.grown (by simpa using hb)).mono (by omega)
  obtain ⟨hbB, hb1, -⟩ := h.mid nm bn hN
  have hNlt : ∀ x b, N x = some b → b < w.heap.size := fun x b e => by
    obtain ⟨_, _, D2, g, _⟩ := h.mid x b e
    exact g.lt
  have hVlt : ∀ x va b, V x va = some b → b < w.heap.size := fun x va b e => by
    obtain ⟨_, _, D2, g, _⟩ := h.low x va b e
    exact g.lt
  have hlt1 : b1 < w.heap.size := h.top.lt
  have hltn : bn < w.heap.size := ho2.lt
  refine { base := h.base, top := hk h.top (fun e => hb1 e.symm), topAt := h.topAt, topHas := h.topHas, mid := fun x b e => ?_, midNo := fun x e y => ?_, low := fun x y b e => ?_, lowNo := fun x y e => ?_, oneN := h.oneN, oneV := fun x y x' y' b e1 e2 => ?_, apart := fun x b x' y' b' e1 e2 => ?_ }
  · by_cases hx : x = nm
    · subst hx
      obtain rfl : bn = b := by rw [hN] at e; simpa using e
      refine ⟨hbB, hb1, _, hown, fun y => ?_, fun y e => ?_⟩
      · by_cases hy : y = va
        · subst hy
          rw [if_pos ⟨rfl, rfl⟩]
          exact Maps.atKey_put_same ho2.isMap (k := .string y) trivial _ _
        · rw [if_neg (fun c => hy c.2), Maps.atKey_put_other (by simpa using hy)]
          exact hD2 y
      · by_cases hy : y = va
        · rw [if_pos ⟨rfl, hy⟩]; simp
        · rw [if_neg (fun c => hy c.2)]
          rw [Maps.has_put_other (by simpa using hy)] at e
          exact hH2 y e
    · obtain ⟨g1, g2, D3, g3, g4, g5⟩ := h.mid x b e
      have hne : b ≠ bn := fun c => hx (h.oneN x nm b e (by rw [hN, c]))
      refine ⟨g1, g2, D3, hk g3 hne, fun y => ?_, fun y e => ?_⟩
      · rw [if_neg (fun c => hx c.1)]
        exact g4 y
      · rw [if_neg (fun c => hx c.1)]
        exact g5 y e
  · have hx : x ≠ nm := fun c => by rw [c, hN] at e; cases e
    rw [if_neg (fun c => hx c.1)]
    exact h.midNo x e y
  · by_cases hc : x = nm ∧ y = va
    · rw [if_pos hc] at e
      obtain rfl : w.heap.size = b := by simpa using e
      have hne : w.heap.size ≠ b1 := by omega
      have hne2 : w.heap.size ≠ bn := by omega
      refine ⟨hB, hne, .map [], ((World.ownsMap_made w _ _ _).kept ht.grown (by simpa using hne2)).mono (by omega), fun k _ => ?_⟩
      rw [hc.1, hc.2]
      constructor
      · intro c; simp [Maps.has] at c
      · intro c; exact absurd c (h.lowNo nm va hV k)
    · rw [if_neg hc] at e
      obtain ⟨g1, g2, D3, g3, g4⟩ := h.low x y b e
      exact ⟨g1, g2, D3, hk g3 (fun c => h.apart nm bn x y b hN e c.symm), g4⟩
  · by_cases hc : x = nm ∧ y = va
    · rw [if_pos hc] at e; cases e
    · rw [if_neg hc] at e; exact h.lowNo x y e
  · by_cases hc : x = nm ∧ y = va
    · by_cases hc' : x' = nm ∧ y' = va
      · exact ⟨hc.1.trans hc'.1.symm, hc.2.trans hc'.2.symm⟩
      · rw [if_pos hc] at e1
        rw [if_neg hc'] at e2
        have := hVlt x' y' b e2
        have e3 : w.heap.size = b := by simpa using e1
        omega
    · rw [if_neg hc] at e1
      by_cases hc' : x' = nm ∧ y' = va
      · rw [if_pos hc'] at e2
        have := hVlt x y b e1
        have e3 : w.heap.size = b := by simpa using e2
        omega
      · rw [if_neg hc'] at e2
        exact h.oneV x y x' y' b e1 e2
  · by_cases hc : x' = nm ∧ y' = va
    · rw [if_pos hc] at e2
      have := hNlt x b e1
      have e3 : w.heap.size = b' := by simpa using e2
      omega
    · rw [if_neg hc] at e2
      exact h.apart x b x' y' b' e1 e2
/-- A number comes in under a name and a value that stand. -/
theorem Ids.put {B : Nat} {w w2 : World} {b1 n : Nat} {N : List UInt8 → Option Nat} {V : List UInt8 → List UInt8 → Option Nat} {D1 : DataW Unit} {Pr : Int → List UInt8 → List UInt8 → Prop}
    (h : Ids B w b1 n N V D1 Pr) (nm va : List UInt8) (k : Int) (bs : Nat) (hV : V nm va = some bs) (D3 : DataW Unit) (ho3 : w.ownsMap Tryd.prog 3 unitElem bs n D3) (hD3 : ∀ j, (Lit.int .i64 j).wf = true → (Maps.has D3 (.int .i64 j) = true ↔ Pr j nm va))
    (hown : w2.ownsMap Tryd.prog 3 unitElem bs (n + 1) (D3.put (.int .i64 k) (.agg []))) (ht : w.mapTurned w2 bs) :
    Ids B w2 b1 (n + 1) N V D1 (fun j x y => Pr j x y ∨ (j = k ∧ x = nm ∧ y = va)) := by
  have hk : ∀ {kt : TypeId} {R : Value → Option (DataW Unit × List MemPlace)} {b m : Nat} {D : DataW Unit}, w.ownsMap Tryd.prog kt R b m D → b ≠ bs → w2.ownsMap Tryd.prog kt R b (m + 1) D := fun g hb =>
    (g.kept ht.grown (by simpa using hb)).mono (by omega)
  obtain ⟨hbB, hb1, -⟩ := h.low nm va bs hV
  refine { base := h.base, top := hk h.top (fun e => hb1 e.symm), topAt := h.topAt, topHas := h.topHas, mid := fun x b e => ?_, midNo := h.midNo, low := fun x y b e => ?_, lowNo := fun x y e j => ?_, oneN := h.oneN, oneV := h.oneV, apart := h.apart }
  · obtain ⟨g1, g2, D2, g3, g4, g5⟩ := h.mid x b e
    exact ⟨g1, g2, D2, hk g3 (h.apart x b nm va bs e hV), g4, g5⟩
  · by_cases hc : x = nm ∧ y = va
    · obtain ⟨rfl, rfl⟩ := hc
      obtain rfl : bs = b := by rw [hV] at e; simpa using e
      refine ⟨hbB, hb1, _, hown, fun j hj => ?_⟩
      by_cases hjk : j = k
      · subst hjk
        rw [Maps.has_put_same ho3.isMap (k := .int .i64 j) trivial]
        simp
      · rw [Maps.has_put_other (by simpa using hjk), hD3 j hj]
        simp [hjk]
    · obtain ⟨g1, g2, D4, g3, g4⟩ := h.low x y b e
      refine ⟨g1, g2, D4, hk g3 (fun c => hc (h.oneV x y nm va bs (c ▸ e) hV)), fun j hj => ?_⟩
      rw [g4 j hj]
      constructor
      · intro c; exact .inl c
      · rintro (c | c)
        · exact c
        · exact absurd c.2 hc
  · rintro (c | ⟨_, rfl, rfl⟩)
    · exact h.lowNo x y e j c
    · rw [hV] at e; cases e
/-- A number goes. -/
theorem Ids.take {B : Nat} {w w2 : World} {b1 n : Nat} {N : List UInt8 → Option Nat} {V : List UInt8 → List UInt8 → Option Nat} {D1 : DataW Unit} {Pr : Int → List UInt8 → List UInt8 → Prop}
    (h : Ids B w b1 n N V D1 Pr) (nm va : List UInt8) (k : Int) (bs : Nat) (hV : V nm va = some bs) (D3 : DataW Unit) (_ho3 : w.ownsMap Tryd.prog 3 unitElem bs n D3) (hD3 : ∀ j, (Lit.int .i64 j).wf = true → (Maps.has D3 (.int .i64 j) = true ↔ Pr j nm va))
    (hown : w2.ownsMap Tryd.prog 3 unitElem bs n (D3.del (.int .i64 k))) (ht : w.mapTurned w2 bs) :
    Ids B w2 b1 n N V D1 (fun j x y => Pr j x y ∧ ¬(j = k ∧ x = nm ∧ y = va)) := by
  have hk : ∀ {kt : TypeId} {R : Value → Option (DataW Unit × List MemPlace)} {b m : Nat} {D : DataW Unit}, w.ownsMap Tryd.prog kt R b m D → b ≠ bs → w2.ownsMap Tryd.prog kt R b m D := fun g hb =>
    g.kept ht.grown (by simpa using hb)
  obtain ⟨hbB, hb1, -⟩ := h.low nm va bs hV
  refine { base := h.base, top := hk h.top (fun e => hb1 e.symm), topAt := h.topAt, topHas := h.topHas, mid := fun x b e => ?_, midNo := h.midNo, low := fun x y b e => ?_, lowNo := fun x y e j => ?_, oneN := h.oneN, oneV := h.oneV, apart := h.apart }
  · obtain ⟨g1, g2, D2, g3, g4, g5⟩ := h.mid x b e
    exact ⟨g1, g2, D2, hk g3 (h.apart x b nm va bs e hV), g4, g5⟩
  · by_cases hc : x = nm ∧ y = va
    · obtain ⟨rfl, rfl⟩ := hc
      obtain rfl : bs = b := by rw [hV] at e; simpa using e
      refine ⟨hbB, hb1, _, hown, fun j hj => ?_⟩
      by_cases hjk : j = k
      · subst hjk
        rw [Maps.has_del_same]
        simp
      · rw [Maps.has_del_other (by simpa using hjk), hD3 j hj]
        simp [hjk]
    · obtain ⟨g1, g2, D4, g3, g4⟩ := h.low x y b e
      refine ⟨g1, g2, D4, hk g3 (fun c => hc (h.oneV x y nm va bs (c ▸ e) hV)), fun j hj => ?_⟩
      rw [g4 j hj]
      constructor
      · intro c; exact ⟨c, fun q => hc q.2⟩
      · exact fun c => c.1

  · exact fun c => h.lowNo x y e j c.1
/-- A value of which no number is left goes. -/
theorem Ids.dropValue {B : Nat} {w w2 : World} {b1 n : Nat} {N : List UInt8 → Option Nat} {V : List UInt8 → List UInt8 → Option Nat} {D1 : DataW Unit} {Pr : Int → List UInt8 → List UInt8 → Prop}
    (h : Ids B w b1 n N V D1 Pr) (nm va : List UInt8) (bn : Nat) (hN : N nm = some bn) (hno : ∀ k, ¬ Pr k nm va) (D2 : DataW Unit) (hD2 : ∀ y, D2.atKey (.string y) .nil = blkD (V nm y)) (hH2 : ∀ y, Maps.has D2 (.string y) = true → V nm y ≠ none)
    (hown : w2.ownsMap Tryd.prog 9 rMap bn n (D2.del (.string va))) (ht : w.mapTurned w2 bn) :
    Ids B w2 b1 n N (fun x y => if x = nm ∧ y = va then none else V x y) D1 Pr := by
  have hk : ∀ {kt : TypeId} {R : Value → Option (DataW Unit × List MemPlace)} {b m : Nat} {D : DataW Unit}, w.ownsMap Tryd.prog kt R b m D → b ≠ bn → w2.ownsMap Tryd.prog kt R b m D := fun g hb => g.kept ht.grown (by simpa using hb)
  obtain ⟨hbB, hb1, -⟩ := h.mid nm bn hN
  have hV' : ∀ x y b, (if x = nm ∧ y = va then none else V x y) = some b → V x y = some b := fun x y b e => by
    by_cases hc : x = nm ∧ y = va
    · rw [if_pos hc] at e; cases e
    · rwa [if_neg hc] at e
  refine { base := h.base, top := hk h.top (fun e => hb1 e.symm), topAt := h.topAt, topHas := h.topHas, mid := fun x b e => ?_, midNo := fun x e y => ?_, low := fun x y b e => ?_, lowNo := fun x y e => ?_, oneN := h.oneN, oneV := fun x y x' y' b e1 e2 => h.oneV x y x' y' b (hV' _ _ _ e1) (hV' _ _ _ e2), apart := fun x b x' y' b' e1 e2 => h.apart x b x' y' b' e1 (hV' _ _ _ e2) }
  · by_cases hx : x = nm
    · subst hx
      obtain rfl : bn = b := by rw [hN] at e; simpa using e
      refine ⟨hbB, hb1, _, hown, fun y => ?_, fun y e => ?_⟩
      · by_cases hy : y = va
        · subst hy
          rw [if_pos ⟨rfl, rfl⟩, Maps.atKey_del_same]
          rfl
        · rw [if_neg (fun c => hy c.2), Maps.atKey_del_other (by simpa using hy)]
          exact hD2 y
      · by_cases hy : y = va
        · subst hy
          rw [Maps.has_del_same] at e
          cases e
        · rw [if_neg (fun c => hy c.2)]
          rw [Maps.has_del_other (by simpa using hy)] at e
          exact hH2 y e
    · obtain ⟨g1, g2, D3, g3, g4, g5⟩ := h.mid x b e
      have hne : b ≠ bn := fun c => hx (h.oneN x nm b e (by rw [hN, c]))
      refine ⟨g1, g2, D3, hk g3 hne, fun y => ?_, fun y e => ?_⟩
      · rw [if_neg (fun c => hx c.1)]
        exact g4 y
      · rw [if_neg (fun c => hx c.1)]
        exact g5 y e
  · by_cases hc : x = nm ∧ y = va
    · rw [if_pos hc]
    · rw [if_neg hc]; exact h.midNo x e y
  · obtain ⟨g1, g2, D3, g3, g4⟩ := h.low x y b (hV' _ _ _ e)
    exact ⟨g1, g2, D3, hk g3 (fun c => h.apart nm bn x y b hN (hV' _ _ _ e) c.symm), g4⟩
  · by_cases hc : x = nm ∧ y = va
    · obtain ⟨rfl, rfl⟩ := hc
      exact hno
    · rw [if_neg hc] at e; exact h.lowNo x y e
/-- A name of which no value is left goes. -/
theorem Ids.dropName {B : Nat} {w w2 : World} {b1 n : Nat} {N : List UInt8 → Option Nat} {V : List UInt8 → List UInt8 → Option Nat} {D1 : DataW Unit} {Pr : Int → List UInt8 → List UInt8 → Prop}
    (h : Ids B w b1 n N V D1 Pr) (nm : List UInt8) (hno : ∀ y, V nm y = none) (hown : w2.ownsMap Tryd.prog 9 rMap b1 n (D1.del (.string nm))) (ht : w.mapTurned w2 b1) :
    Ids B w2 b1 n (fun x => if x = nm then none else N x) V (D1.del (.string nm)) Pr := by
  have hk : ∀ {kt : TypeId} {R : Value → Option (DataW Unit × List MemPlace)} {b m : Nat} {D : DataW Unit}, w.ownsMap Tryd.prog kt R b m D → b ≠ b1 → w2.ownsMap Tryd.prog kt R b m D := fun g hb => g.kept ht.grown (by simpa using hb)
  have hN' : ∀ x b, (if x = nm then none else N x) = some b → N x = some b := fun x b e => by
    by_cases hc : x = nm
    · rw [if_pos hc] at e; cases e
    · rwa [if_neg hc] at e
  refine { base := h.base, top := hown, topAt := fun x => ?_, topHas := fun x e => ?_, mid := fun x b e => ?_, midNo := fun x e y => ?_, low := fun x y b e => ?_, lowNo := h.lowNo, oneN := fun x y b e1 e2 => h.oneN x y b (hN' _ _ e1) (hN' _ _ e2), oneV := h.oneV, apart := fun x b x' y' b' e1 e2 => h.apart x b x' y' b' (hN' _ _ e1) e2 }
  · by_cases hx : x = nm
    · subst hx
      rw [if_pos rfl, Maps.atKey_del_same]
      rfl
    · rw [if_neg hx, Maps.atKey_del_other (by simpa using hx)]
      exact h.topAt x
  · by_cases hx : x = nm
    · subst hx
      rw [Maps.has_del_same] at e
      cases e
    · rw [if_neg hx]
      rw [Maps.has_del_other (by simpa using hx)] at e
      exact h.topHas x e
  · obtain ⟨g1, g2, D2, g3, g4, g5⟩ := h.mid x b (hN' _ _ e)
    exact ⟨g1, g2, D2, hk g3 g2, g4, g5⟩
  · by_cases hx : x = nm
    · rw [hx]; exact hno y
    · rw [if_neg hx] at e; exact h.midNo x e y
  · obtain ⟨g1, g2, D3, g3, g4⟩ := h.low x y b e
    exact ⟨g1, g2, D3, hk g3 g2, g4⟩
end Go.Proofs.YtnlkipgjacgddaaDoor
end
section
namespace Go.Proofs.YtnlkipgjacgddaaDoor
open Go.RowKit Go.Maps Go.Icz Go.ChangeMaps Go.MapKept Go.WideShapes
theorem cA (w1 : World) (n : Nat) (a b : Value) (t : TypeId) (hn : w1.heap.size = n) : (w1.alloc (.cells #[a, b] t)).cell? ⟨n, 0, none⟩ = some a := by subst hn; simp
theorem cB (w1 : World) (n : Nat) (a b : Value) (t : TypeId) (hn : w1.heap.size = n) : (w1.alloc (.cells #[a, b] t)).cell? ⟨n, 1, none⟩ = some b := by subst hn; simp
set_option maxRecDepth 100000 in
theorem New_is (w : World) : Calls Tryd.prog 4 #[] w fun e w' => ∃ (b0 b1 : Nat) (v : Value), e = .returned v ∧ IdxAt w' v b0 b1 ∧ w.heap.size ≤ b0 ∧ b0 ≠ b1 ∧ w'.ownsMap Tryd.prog 3 rSl b0 0 (.map []) ∧
    Ids w.heap.size w' b1 0 (fun _ => none) (fun _ _ => none) (.map []) (fun _ _ _ => False) ∧ Below w.heap.size w w' ∧ ∀ g, v = .pointer (some ⟨g, 0, none⟩) → w.heap.size ≤ g := by
  have hMM := @run_makeMap Tryd.prog
  have m0 := World.ownsMap_made w Tryd.prog 3 rSl
  have m1 := Ids.made (w.alloc (.map #[] 0)) (B := w.heap.size) (by simp)
  go_enter Tryd.func4, Tryd.ntmps4
  go_wp2
  go_ret
  have e1 : (w.alloc (.map #[] 0)).heap.size = w.heap.size + 1 := by simp
  have bA : ∀ (w1 : World) (o : Obj), Below w1.heap.size w1 (w1.alloc o) := fun w1 o => (Below.refl _ w1).alloc (Nat.le_refl _) o
  rw [e1] at m1
  refine ⟨w.heap.size, w.heap.size + 1, _, rfl, ⟨w.heap.size + 1 + 1, rfl, by simp, cA _ _ _ _ _ (by simp), cB _ _ _ _ _ (by simp)⟩, Nat.le_refl _, by omega, ownsMap_below (ownsMap_below m0 (bA _ _)) (bA _ _), m1.below (bA _ _), ?_, fun g e => by injection e with e; injection e with e; injection e with e; omega⟩
  have c1 := bA w (.map #[] 0)
  have c2 := bA (w.alloc (.map #[] 0)) (.map #[] 0)
  exact c1.trans ((c2.trans ((bA _ _).mono c2.size)).mono c1.size)
end Go.Proofs.YtnlkipgjacgddaaDoor
end
