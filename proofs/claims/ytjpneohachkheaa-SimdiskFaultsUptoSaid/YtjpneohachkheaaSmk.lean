/-
  Names rising; a copy of the names. Conditions: those that each theorem names.
-/
import Derived.Test.YtjpneohachkheaaSsmc
import Derived.Test.YtjpneohachkheaaSm2
namespace Go.Proofs
open Go.RowKit Go.Maps Go.Sort Go.Shelf Go.ChangeMaps Go.MapKept Go.WideShapes
theorem Try.sortsS (m : Nat) : AnyZ.SortsIn Try.prog Try.sortedS_ren Fence.wide m :=
  ⟨fun blk off cap ss W hH hblk hsz => callsIn_wide.2 (AnyM.slices_Sort_string Try.sortS blk off cap ss W hH hblk hsz),
   fun p cap W => callsIn_wide.2 (AnyM.slices_Sort_string_none Try.sortS p cap W)⟩
theorem ownsMap_below {H : Type} {P : Program} {k : TypeId} {R : Value → Option (DataW H × List MemPlace)} {w w' : World} {b n : Nat} {D : DataW H} (h : w.ownsMap P k R b n D) (hb : Below w.heap.size w w') : w'.ownsMap P k R b n D := by
  have hl := h.lt
  obtain ⟨es, clock, h1, h2, h3, h4⟩ := h
  exact ⟨es, clock, (hb.block b hl).trans h1, h2, h3, h4⟩
theorem ownsRow_less {w : World} {B B' : Nat} {e : TypeId} {v : Value} {n : Nat} {xs : List Value} (h : w.ownsRow B e 1 v n xs) (hB : B' ≤ B) : w.ownsRow B' e 1 v n xs := by
  refine ⟨h.1, ?_⟩
  rcases h.2 with h | ⟨g, cap, cur, hv, hg, r⟩
  · exact .inl h
  · exact .inr ⟨g, cap, cur, hv, Nat.le_trans hB hg, r⟩
set_option maxHeartbeats 1000000 in
set_option maxRecDepth 100000 in
theorem Try.keysC_of {H : Type} {R : Value → Option (DataW H × List MemPlace)} (w : World) (b nn : Nat) (D : DataW H) (hown : w.ownsMap Try.prog 9 R b nn D) (hN : Maps.size D ≤ 8388608) :
    Calls Try.prog 33 #[.map (some b)] w fun e w' => ∃ (v : Value) (ss : List (List UInt8)), e = .returned v ∧ ss.Perm (strKeys D) ∧ w'.ownsRow w.heap.size 9 1 v ss.length ((ss.mergeSort (fun x y => decide (x ≤ y))).map encStr) ∧ Below w.heap.size w w' := by
  refine (callsIn_wide (n := 6)).1 ?_
  have hseq : SeqGives Fence.wide 2 Try.prog 51 #[.pointer (some ⟨w.heap.size, 0, none⟩)] encStr (fun ss : List (List UInt8) => ss.Perm (strKeys D)) (Maps.size D) (w.alloc (.cells #[.map (some b)] 66)) :=
    AnyZ.keys_gives (ρ := Try.keysC_ren) { Try.keysC with } Fence.wide _ trivial rfl (by omega) w.heap.size b nn D _ (by simp) (by simp) (ownsMap_below hown ((Below.refl _ w).alloc (Nat.le_refl _) _))
  have cK : ∀ mb W, CallsIn Fence.wide 5 Try.prog 43 #[.map mb] W fun e w' => e = .returned (.func (.func 51) #[] #[.pointer (some ⟨W.heap.size, 0, none⟩)]) ∧ w' = W.alloc (.cells #[.map mb] 66) := fun mb W => AnyZ.keys_in Try.keysC Fence.wide 5 trivial rfl mb W
  have cS := AnyZ.sorted_in Try.sortedS Fence.wide 5 trivial trivial trivial trivial rfl (by omega) (Try.sortsS _) (enters_of Try.func50 (by kernel_rfl) rfl) 51 #[.pointer (some ⟨w.heap.size, 0, none⟩)] trivial (enters_of Try.func51 (by kernel_rfl) rfl) _ (Maps.size D) (by unfold maxLen; omega) (by omega) _ hseq
  change CallsIn _ _ Try.prog 42 _ _ _ at cS
  have hfK : Fence.wide.fn 43 := trivial
  have hfS : Fence.wide.fn 42 := trivial
  refine callsIn_of_wp Try.func33 rfl trivial ?_ rfl
  simp only [Try.ntmps33, List.size_toArray, List.length_cons, List.length_nil, Nat.reduceAdd, Nat.reduceSub, Array.replicate_succ, Array.replicate_zero, List.push_toArray, List.append_toArray, List.nil_append, List.cons_append]
  gi_wp2_with (first
    | (gi_at_call 43; refine (cK _ _).mono ?_; rintro e w' ⟨rfl, rfl⟩)
    | (gi_at_call 42; refine cS.mono ?_; rintro e w' ⟨v, ss, rfl, hS, hrow, _, hb⟩))
  go_ret
  exact ⟨v, ss, rfl, hS, ownsRow_less hrow (by simp), ((Below.refl _ w).alloc (Nat.le_refl _) _).trans (hb.mono (by simp))⟩
end Go.Proofs
namespace Go.Proofs.Ytjpneohachkheaa
open Go.RowKit Go.Icz Go.Maps Go.ChangeMaps Go.MapKept
set_option maxRecDepth 100000
def kb (l : List UInt8) : ByteArray := ⟨l.toArray⟩
theorem names_perm {w : World} {b : Nat} {N : NM} {gs : List Nat} {D : DataW Unit} (hown : w.ownsMap Try.prog 9 rPt b N.length D) (ha : Agr D N gs) (hn : (nkeys N).Nodup) {ss : List (List UInt8)} (hS : ss.Perm (strKeys D)) : ss.Perm (N.map fun e => e.1.data.toList) := by
  have K : Keyed Try.prog 9 := string_keyed Try.underlying9
  obtain ⟨es, rfl, hp, hk⟩ := hown.entries K
  have hk2 : ∀ p ∈ es, ∃ x, p.1 = .string x := by
    obtain ⟨es', clock, _, F, _, hD⟩ := hown
    injection hD with hD
    subst hD
    intro p hp'
    obtain ⟨x, hx, rfl⟩ := List.mem_map.1 (mem_sorted.1 hp')
    obtain ⟨y, hy⟩ := F.reads x hx
    rw [WideElems.rg_of hy]
    obtain ⟨s, _, e, _⟩ := Maps.keyOf_str Try.underlying9 (WideElems.rd_key hy)
    exact ⟨s, e⟩
  refine hS.trans (perm_strKeys hp hk2 (ss := N.map fun e => e.1.data.toList) ?_ ?_).symm
  · unfold nkeys at hn
    refine List.nodup_iff_pairwise_ne.2 (List.pairwise_map.2 ?_)
    refine (List.pairwise_map.1 (List.nodup_iff_pairwise_ne.1 hn)).imp ?_
    intro x y hne e
    exact hne (ByteArray.ext (Array.ext' e))
  · intro x
    have : Lit.string x = kl (kb x) := by unfold kl kb; simp
    rw [this, ha.has, look_isSome]
    constructor
    · intro hx
      obtain ⟨e, he, rfl⟩ := List.mem_map.1 hx
      refine List.mem_map.2 ⟨e, he, ?_⟩
      unfold kb
      simp
    · intro hx
      obtain ⟨e, he, h⟩ := List.mem_map.1 hx
      exact List.mem_map.2 ⟨e, he, by rw [h]; unfold kb; simp⟩
/-- The names, rising. -/
theorem rising_is {w : World} {b : Nat} {N : NM} {gs : List Nat} (h : Mp w b N gs) (hn : (nkeys N).Nodup) (hN : N.length ≤ 1048576) :
    Calls Try.prog 33 #[.map (some b)] w fun e w' => ∃ v, e = .returned v ∧ KS.Own w' w.heap.size v ((rising N).map kb) ∧ Below w.heap.size w w' := by
  obtain ⟨D, hown, ha⟩ := h
  refine (Try.keysC_of w b _ D hown (by rw [ha.size]; omega)).mono ?_
  rintro e w' ⟨v, ss, rfl, hS, hrow, hb⟩
  refine ⟨v, rfl, ?_, hb⟩
  have hp := names_perm hown ha hn hS
  have e1 : ss.mergeSort (fun x y => decide (x ≤ y)) = rising N := by
    unfold rising
    exact mergeSort_of_perm hp
  rw [e1] at hrow
  have hl : ss.length = ((rising N).map kb).length := by rw [← e1]; simp
  rw [hl] at hrow
  have hc : KS.cells ((rising N).map kb) = (rising N).map encStr := by
    unfold Kd.cells
    induction rising N with
    | nil => rfl
    | cons a r ih => rw [List.map_cons, List.flatMap_cons, ih]; rfl
  unfold Kd.Own
  rw [hc]
  exact hrow
theorem rising_none {w : World} {b : Nat} {N : NM} {gs : List Nat} (_h : Mp w b N gs) : True := trivial
theorem rising_nil (w : World) : Calls Try.prog 33 #[.map none] w fun e w' => e = .returned (.slice none 0 0) ∧ Below w.heap.size w w' := by
  refine (callsIn_wide (n := 6)).1 ?_
  have hseq : SeqGives Fence.wide 2 Try.prog 51 #[.pointer (some ⟨w.heap.size, 0, none⟩)] encStr (fun ss : List (List UInt8) => ss = []) 0 (w.alloc (.cells #[.map none] 66)) :=
    Go.Proofs.AnyZ.keys_gives_nil (ρ := Go.Proofs.Try.keysC_ren) { Go.Proofs.Try.keysC with } Fence.wide _ trivial rfl w.heap.size _ (by simp) (by simp)
  have cK : ∀ mb W, CallsIn Fence.wide 5 Try.prog 43 #[.map mb] W fun e w' => e = .returned (.func (.func 51) #[] #[.pointer (some ⟨W.heap.size, 0, none⟩)]) ∧ w' = W.alloc (.cells #[.map mb] 66) := fun mb W => Go.Proofs.AnyZ.keys_in Go.Proofs.Try.keysC Fence.wide 5 trivial rfl mb W
  have cS := Go.Proofs.AnyZ.sorted_in Go.Proofs.Try.sortedS Fence.wide 5 trivial trivial trivial trivial rfl (by omega) (Go.Proofs.Try.sortsS _) (enters_of Try.func50 (by kernel_rfl) rfl) 51 #[.pointer (some ⟨w.heap.size, 0, none⟩)] trivial (enters_of Try.func51 (by kernel_rfl) rfl) _ 0 (Nat.zero_le _) (by omega) _ hseq
  change CallsIn _ _ Try.prog 42 _ _ _ at cS
  have hfK : Fence.wide.fn 43 := trivial
  have hfS : Fence.wide.fn 42 := trivial
  refine callsIn_of_wp Try.func33 rfl trivial ?_ rfl
  simp only [Try.ntmps33, List.size_toArray, List.length_cons, List.length_nil, Nat.reduceAdd, Nat.reduceSub, Array.replicate_succ, Array.replicate_zero, List.push_toArray, List.append_toArray, List.nil_append, List.cons_append]
  gi_wp2_with (first
    | (gi_at_call 43; refine (cK _ _).mono ?_; rintro e w' ⟨rfl, rfl⟩)
    | (gi_at_call 42; refine cS.mono ?_; rintro e w' ⟨v, ss, rfl, rfl, hrow, hnil, hb⟩; obtain rfl : v = .slice none 0 0 := hnil.2 rfl))
  go_ret
  exact ⟨rfl, ((Below.refl _ w).alloc (Nat.le_refl _) _).trans (hb.mono (by simp))⟩
/-- A copy of the names. -/
theorem mpClone_is {w : World} {b : Nat} {N : NM} {gs : List Nat} (h : Mp w b N gs) :
    Calls Try.prog 35 #[.map (some b)] w fun e w' => e = .returned (.map (some w.heap.size)) ∧ Mp w' w.heap.size N gs ∧ Below w.heap.size w w' := by
  obtain ⟨D, hown, ha⟩ := h
  have := Go.Proofs.AnyW.maps_Clone_owns Go.Proofs.Try.mclone 9 rPt b N.length D w hown
  refine this.mono ?_
  rintro e w' ⟨rfl, h1, _, h3⟩
  exact ⟨rfl, ⟨D, h1, ha⟩, h3⟩
end Go.Proofs.Ytjpneohachkheaa
