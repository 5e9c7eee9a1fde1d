/-
  Keys rising; keys struck by a beginning. Conditions: those that each theorem names.
-/
import Derived.Test.YtcohpgahffbnlaaOsl
import Derived.Test.YtcohpgahffbnlaaOm4
namespace Go.Proofs
open Go.RowKit Go.Maps Go.Sort Go.Shelf Go.ChangeMaps Go.MapKept Go.WideShapes
theorem Try.sortsS (m : Nat) : AnyZ.SortsIn Try.prog Try.sortedS_ren Fence.wide m :=
  ⟨fun blk off cap ss W hH hblk hsz => callsIn_wide.2 (AnyM.slices_Sort_string Try.sortS blk off cap ss W hH hblk hsz),
   fun p cap W => callsIn_wide.2 (AnyM.slices_Sort_string_none Try.sortS p cap W)⟩
theorem ownsMap_below {H : Type} {P : Program} {k : TypeId} {R : Value → Option (DataW H × List MemPlace)} {w w' : World} {b n : Nat} {D : DataW H} (h : w.ownsMap P k R b n D) (hb : Below w.heap.size w w') : w'.ownsMap P k R b n D := by
  have hl := h.lt
  obtain ⟨es, clock, h1, h2, h3, h4⟩ := h
  exact ⟨es, clock, (hb.block b hl).trans h1, h2, h3, h4⟩
theorem ownsRow_less {w : World} {B B' : Nat} {e : TypeId} {v : Value} {n : Nat} {xs : List Value} (h : w.ownsRow B e 1 v n xs) (hB : B' ≤ B) : w.ownsRow B' e 1 v n xs := by
  refine ⟨h.1, ?_⟩
  rcases h.2 with h | ⟨g, cap, cur, hv, hg, r⟩
  · exact .inl h
  · exact .inr ⟨g, cap, cur, hv, Nat.le_trans hB hg, r⟩
set_option maxHeartbeats 1000000 in
set_option maxRecDepth 100000 in
theorem Try.sortU_of {H : Type} {R : Value → Option (DataW H × List MemPlace)} (w : World) (b nn : Nat) (D : DataW H) (hown : w.ownsMap Try.prog 9 R b nn D) (hN : Maps.size D ≤ 8388608) :
    CallsIn Fence.wide 5 Try.prog 49 #[.func (.func 71) #[] #[.pointer (some ⟨w.heap.size, 0, none⟩)]] (w.alloc (.cells #[.map (some b)] 99)) fun e w' => ∃ (v : Value) (ss : List (List UInt8)), e = .returned v ∧ ss.Perm (strKeys D) ∧ w'.ownsRow w.heap.size 9 1 v ss.length ((ss.mergeSort (fun x y => decide (x ≤ y))).map encStr) ∧ Below w.heap.size w w' := by
  have hseq : SeqGives Fence.wide 2 Try.prog 71 #[.pointer (some ⟨w.heap.size, 0, none⟩)] encStr (fun ss : List (List UInt8) => ss.Perm (strKeys D)) (Maps.size D) (w.alloc (.cells #[.map (some b)] 99)) :=
    AnyZ.keys_gives (ρ := Try.keysU_ren) { Try.keysU with } Fence.wide _ trivial rfl (by omega) w.heap.size b nn D _ (by simp) (by simp) (ownsMap_below hown ((Below.refl _ w).alloc (Nat.le_refl _) _))
  have cS := AnyZ.sorted_in Try.sortedS Fence.wide 5 trivial trivial trivial trivial rfl (by omega) (Try.sortsS _) (enters_of Try.func65 (by kernel_rfl) rfl) 71 #[.pointer (some ⟨w.heap.size, 0, none⟩)] trivial (enters_of Try.func71 (by kernel_rfl) rfl) _ (Maps.size D) (by unfold maxLen; omega) (by omega) _ hseq
  change CallsIn _ _ Try.prog 49 _ _ _ at cS
  refine cS.mono ?_
  rintro e w' ⟨v, ss, rfl, hS, hrow, _, hb⟩
  exact ⟨v, ss, rfl, hS, ownsRow_less hrow (by simp), ((Below.refl _ w).alloc (Nat.le_refl _) _).trans (hb.mono (by simp))⟩
set_option maxHeartbeats 1000000 in
set_option maxRecDepth 100000 in
theorem Try.sortO_of {H : Type} {R : Value → Option (DataW H × List MemPlace)} (w : World) (b nn : Nat) (D : DataW H) (hown : w.ownsMap Try.prog 9 R b nn D) (hN : Maps.size D ≤ 8388608) :
    CallsIn Fence.wide 5 Try.prog 49 #[.func (.func 66) #[] #[.pointer (some ⟨w.heap.size, 0, none⟩)]] (w.alloc (.cells #[.map (some b)] 37)) fun e w' => ∃ (v : Value) (ss : List (List UInt8)), e = .returned v ∧ ss.Perm (strKeys D) ∧ w'.ownsRow w.heap.size 9 1 v ss.length ((ss.mergeSort (fun x y => decide (x ≤ y))).map encStr) ∧ Below w.heap.size w w' := by
  have hseq : SeqGives Fence.wide 2 Try.prog 66 #[.pointer (some ⟨w.heap.size, 0, none⟩)] encStr (fun ss : List (List UInt8) => ss.Perm (strKeys D)) (Maps.size D) (w.alloc (.cells #[.map (some b)] 37)) :=
    AnyZ.keys_gives (ρ := Try.keysO_ren) { Try.keysO with } Fence.wide _ trivial rfl (by omega) w.heap.size b nn D _ (by simp) (by simp) (ownsMap_below hown ((Below.refl _ w).alloc (Nat.le_refl _) _))
  have cS := AnyZ.sorted_in Try.sortedS Fence.wide 5 trivial trivial trivial trivial rfl (by omega) (Try.sortsS _) (enters_of Try.func65 (by kernel_rfl) rfl) 66 #[.pointer (some ⟨w.heap.size, 0, none⟩)] trivial (enters_of Try.func66 (by kernel_rfl) rfl) _ (Maps.size D) (by unfold maxLen; omega) (by omega) _ hseq
  change CallsIn _ _ Try.prog 49 _ _ _ at cS
  refine cS.mono ?_
  rintro e w' ⟨v, ss, rfl, hS, hrow, _, hb⟩
  exact ⟨v, ss, rfl, hS, ownsRow_less hrow (by simp), ((Below.refl _ w).alloc (Nat.le_refl _) _).trans (hb.mono (by simp))⟩
theorem Try.sortO_nil (w : World) :
    CallsIn Fence.wide 5 Try.prog 49 #[.func (.func 66) #[] #[.pointer (some ⟨w.heap.size, 0, none⟩)]] (w.alloc (.cells #[.map none] 37)) fun e w' => e = .returned (.slice none 0 0) ∧ Below w.heap.size w w' := by
  have hseq : SeqGives Fence.wide 2 Try.prog 66 #[.pointer (some ⟨w.heap.size, 0, none⟩)] encStr (fun ss : List (List UInt8) => ss = []) 0 (w.alloc (.cells #[.map none] 37)) :=
    AnyZ.keys_gives_nil (ρ := Try.keysO_ren) { Try.keysO with } Fence.wide _ trivial rfl w.heap.size _ (by simp) (by simp)
  have cS := AnyZ.sorted_in Try.sortedS Fence.wide 5 trivial trivial trivial trivial rfl (by omega) (Try.sortsS _) (enters_of Try.func65 (by kernel_rfl) rfl) 66 #[.pointer (some ⟨w.heap.size, 0, none⟩)] trivial (enters_of Try.func66 (by kernel_rfl) rfl) _ 0 (Nat.zero_le _) (by omega) _ hseq
  change CallsIn _ _ Try.prog 49 _ _ _ at cS
  refine cS.mono ?_
  rintro e w' ⟨v, ss, rfl, rfl, hrow, hnil, hb⟩
  obtain rfl : v = .slice none 0 0 := hnil.2 rfl
  exact ⟨rfl, ((Below.refl _ w).alloc (Nat.le_refl _) _).trans (hb.mono (by simp))⟩
end Go.Proofs
namespace Go.Proofs.Ytcohpgahffbnlaa
open Go.RowKit Go.Icz Go.Maps Go.ChangeMaps Go.MapKept Go.Shelf
set_option maxRecDepth 100000
def kb (l : List UInt8) : ByteArray := ⟨l.toArray⟩
theorem keys_perm {H β : Type} {R : Value → Option (DataW H × List MemPlace)} {w : World} {b n : Nat} {N : AL β} {D : DataW H} (hown : w.ownsMap Try.prog 9 R b n D) (ha : AgrK D N) (hn : (akeys N).Nodup) {ss : List (List UInt8)} (hS : ss.Perm (strKeys D)) : ss.Perm (N.map fun e => e.1.data.toList) := by
  have K : Keyed Try.prog 9 := string_keyed Try.underlying9
  obtain ⟨es, rfl, hp, hk⟩ := hown.entries K
  have hk2 : ∀ p ∈ es, ∃ x, p.1 = .string x := by
    obtain ⟨es', clock, _, F, _, hD⟩ := hown
    injection hD with hD
    subst hD
    intro p hp'
    obtain ⟨x, hx, rfl⟩ := List.mem_map.1 (mem_sorted.1 hp')
    obtain ⟨y, hy⟩ := F.reads x hx
    rw [WideElems.rg_of hy]
    obtain ⟨s, _, e, _⟩ := Maps.keyOf_str Try.underlying9 (WideElems.rd_key hy)
    exact ⟨s, e⟩
  refine hS.trans (perm_strKeys hp hk2 (ss := N.map fun e => e.1.data.toList) ?_ ?_).symm
  · unfold akeys at hn
    refine List.nodup_iff_pairwise_ne.2 (List.pairwise_map.2 ?_)
    refine (List.pairwise_map.1 (List.nodup_iff_pairwise_ne.1 hn)).imp ?_
    intro x y hne e
    exact hne (ByteArray.ext (Array.ext' e))
  · intro x
    have : Lit.string x = kl (kb x) := by unfold kl kb; simp
    rw [this, ha.has, al_isSome]
    constructor
    · intro hx
      obtain ⟨e, he, rfl⟩ := List.mem_map.1 hx
      refine List.mem_map.2 ⟨e, he, ?_⟩
      unfold kb
      simp
    · intro hx
      obtain ⟨e, he, h⟩ := List.mem_map.1 hx
      exact List.mem_map.2 ⟨e, he, by rw [h]; unfold kb; simp⟩
theorem row_rises {β : Type} {N : AL β} {w : World} {B : Nat} {v : Value} {ss : List (List UInt8)} (hp : ss.Perm (N.map fun e => e.1.data.toList)) (hrow : w.ownsRow B 9 1 v ss.length ((ss.mergeSort (fun x y => decide (x ≤ y))).map encStr)) : KS.Own w B v ((rises N).map kb) := by
  have e1 : ss.mergeSort (fun x y => decide (x ≤ y)) = rises N := by
    unfold rises
    exact mergeSort_of_perm hp
  rw [e1] at hrow
  have hl : ss.length = ((rises N).map kb).length := by rw [← e1]; simp
  rw [hl] at hrow
  have hc : KS.cells ((rises N).map kb) = (rises N).map encStr := by
    unfold Kd.cells
    induction rises N with
    | nil => rfl
    | cons a r ih => rw [List.map_cons, List.flatMap_cons, ih]; rfl
  unfold Kd.Own
  rw [hc]
  exact hrow
theorem sortU_is {w : World} {b : Nat} {U : AL Unit} (h : Us w b U) (hn : (akeys U).Nodup) (hl : U.length ≤ 8388608) :
    CallsIn Fence.wide 5 Try.prog 49 #[.func (.func 71) #[] #[.pointer (some ⟨w.heap.size, 0, none⟩)]] (w.alloc (.cells #[.map (some b)] 99)) fun e w' => ∃ v, e = .returned v ∧ KS.Own w' w.heap.size v ((rises U).map kb) ∧ Below w.heap.size w w' := by
  obtain ⟨D, hown, ha⟩ := h
  refine (Try.sortU_of w b _ D hown (by rw [ha.size]; exact hl)).mono ?_
  rintro e w' ⟨v, ss, rfl, hS, hrow, hb⟩
  exact ⟨v, rfl, row_rises (keys_perm hown ha hn hS) hrow, hb⟩
theorem sortO_is {w : World} {T : Nat → Prop} {b : Nat} {L : OM} (h : Ob w T b L) (hn : (akeys L).Nodup) (hl : L.length ≤ 8388608) :
    CallsIn Fence.wide 5 Try.prog 49 #[.func (.func 66) #[] #[.pointer (some ⟨w.heap.size, 0, none⟩)]] (w.alloc (.cells #[.map (some b)] 37)) fun e w' => ∃ v, e = .returned v ∧ KS.Own w' w.heap.size v ((rises L).map kb) ∧ Below w.heap.size w w' := by
  obtain ⟨D, hown, ha, _⟩ := h
  refine (Try.sortO_of w b _ D hown (by rw [ha.size]; exact hl)).mono ?_
  rintro e w' ⟨v, ss, rfl, hS, hrow, hb⟩
  exact ⟨v, rfl, row_rises (keys_perm hown ha hn hS) hrow, hb⟩
theorem keysU_is (mb : Option Nat) (W : World) : CallsIn Fence.wide 5 Try.prog 62 #[.map mb] W fun e w' => e = .returned (.func (.func 71) #[] #[.pointer (some ⟨W.heap.size, 0, none⟩)]) ∧ w' = W.alloc (.cells #[.map mb] 99) := Go.Proofs.AnyZ.keys_in Go.Proofs.Try.keysU Fence.wide 5 trivial rfl mb W
theorem keysO_is (mb : Option Nat) (W : World) : CallsIn Fence.wide 5 Try.prog 50 #[.map mb] W fun e w' => e = .returned (.func (.func 66) #[] #[.pointer (some ⟨W.heap.size, 0, none⟩)]) ∧ w' = W.alloc (.cells #[.map mb] 37) := Go.Proofs.AnyZ.keys_in Go.Proofs.Try.keysO Fence.wide 5 trivial rfl mb W
end Go.Proofs.Ytcohpgahffbnlaa
