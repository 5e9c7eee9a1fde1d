/-
  What the two Nexts answer, by the bare entries that are to come. Conditions: those that each theorem names.
-/
import Derived.Test.YtbebhcdnnfgchaaMnx
namespace Go.Icz
open Go.RowKit
/-- No entry. -/
def zE : Ent := { seq := 0, time := 0, labs := [], line := [] }
/-- What comes, whether it does, what is left then, and which numbers were met then. -/
def ansN : Option (Ent × List Ent) → Ent
  | none => zE
  | some (x, _) => x
def isN : Option (Ent × List Ent) → Bool
  | none => false
  | some _ => true
def resN : Option (Ent × List Ent) → List Ent
  | none => []
  | some (_, T) => T
def metN : Option (Ent × List Ent) → List Int → List Int
  | none, met => met
  | some (x, _), met => x.seq :: met
theorem Below.swap {B C : Nat} {W W3 w w5 : World} (h : Below B W w) (h1 : Below C W3 w) (h2 : Below C W3 w5) (hBC : B ≤ C) (hs : w.heap.size ≤ w5.heap.size) : Below B W w5 :=
  ⟨h2.os.trans (h1.os.symm.trans h.os), h2.tape.trans (h1.tape.symm.trans h.tape), h2.output.trans (h1.output.symm.trans h.output), Nat.le_trans h.size hs, fun k hk => (h2.block k (by omega)).trans ((h1.block k (by omega)).symm.trans (h.block k hk))⟩
end Go.Icz
namespace Go.Proofs.Ytbebhcdnnfgchaa
open Go.RowKit Go.Icz Go.Maps
theorem strm_bare (nb : Bool) (R : List SR) : (strm kyV nb (rowsOf R)).map (·.1) = strm kyE nb (bare R) := by
  have e : bare R = (rowsOf R).map (List.map (·.1)) := by unfold bare rowsOf; rw [List.map_map]; rfl
  rw [e, strm_map kyV kyE (·.1) (fun _ => rfl)]
theorem Next_U {W0 w : World} {q m : Nat} {nb : Bool} {S : List EV} {SE : List Ent} {met : List Int} {sk : Nat} (h : It W0 w q m nb S met sk) (hS : S.map (·.1) = SE) :
    Calls Try.prog 16 #[.pointer (some ⟨q, 0, none⟩)] w fun e w' => ∃ A c, e = .returned (.tuple #[entV (ansN (nx kyE met SE).1, A, c), .bool (isN (nx kyE met SE).1)]) ∧ KLab.Own w' w.heap.size (.slice A (ansN (nx kyE met SE).1).labs.length c) (ansN (nx kyE met SE).1).labs ∧ Fr (ItE q m) w w' ∧ ∃ S', S'.map (·.1) = resN (nx kyE met SE).1 ∧ It W0 w' q m nb S' (metN (nx kyE met SE).1 met) (sk + (nx kyE met SE).2) := by
  subst hS
  rw [nx_map kyV kyE (·.1) (fun _ => rfl) met S]
  cases hnx : (nx kyV met S).1 with
  | none =>
    refine (Next_no h hnx).mono fun e w' ⟨h1, h2, h3⟩ => ?_
    exact ⟨none, 0, h1, Kd.Own.nil _ _, h3, [], rfl, h2⟩
  | some z =>
    obtain ⟨x, T⟩ := z
    refine (Next_yes h hnx).mono fun e w' ⟨A, c, h1, h2, h3, h4⟩ => ?_
    exact ⟨A, c, h1, h2, h4, T, rfl, h3⟩
theorem RNext_U {W0 w : World} {q m : Nat} {vr : Value} {nb : Bool} {L : List SR} {SE : List Ent} {met : List Int} {sk : Nat} (h : RIt W0 w q m vr nb L met sk) (hS : (strm kyV nb (rowsOf L)).map (·.1) = SE) :
    Calls Try.prog 17 #[.pointer (some ⟨q, 0, none⟩)] w fun e w' => ∃ A c, e = .returned (.tuple #[entV (ansN (nx kyE met SE).1, A, c), .bool (isN (nx kyE met SE).1)]) ∧ KLab.Rd w' (.slice A (ansN (nx kyE met SE).1).labs.length c) (ansN (nx kyE met SE).1).labs ∧ (ansN (nx kyE met SE).1).labs.length ≤ 1099511627776 ∧ Tch (RE q m vr) w w' ∧ ∃ L', (strm kyV nb (rowsOf L')).map (·.1) = resN (nx kyE met SE).1 ∧ RIt W0 w' q m vr nb L' (metN (nx kyE met SE).1 met) (sk + (nx kyE met SE).2) := by
  subst hS
  rw [nx_map kyV kyE (·.1) (fun _ => rfl) met _]
  refine (RNext_is h).mono fun e w' ⟨f, h2⟩ => ?_
  cases hnx : (nx kyV met (strm kyV nb (rowsOf L))).1 with
  | none =>
    rw [hnx] at h2
    obtain ⟨h3, L2, h4, h5⟩ := h2
    exact ⟨none, 0, h3, Kd.Rd.nil _, Nat.zero_le 1099511627776, f, L2, by rw [h5]; rfl, h4⟩
  | some z =>
    obtain ⟨⟨x, A, c⟩, T⟩ := z
    rw [hnx] at h2
    obtain ⟨h3, hg, L2, h4, h5⟩ := h2
    exact ⟨A, c, h3, (hg.1).below h4.bel, hg.2.2, f, L2, by rw [h5]; rfl, h4⟩
theorem nn_bd (calls : Int) : 0 ≤ (wrap64 (calls.tmod 60 + 60)).tmod 60 ∧ (wrap64 (calls.tmod 60 + 60)).tmod 60 ≤ 60 := by
  have h1 : -60 < calls.tmod 60 := by
    have := Int.tmod_lt_of_pos (-calls) (b := 60) (by decide)
    rw [Int.neg_tmod] at this
    omega
  have h2 : calls.tmod 60 < 60 := Int.tmod_lt_of_pos calls (by decide)
  generalize calls.tmod 60 = t at *
  have e1 : wrap64 (t + 60) = t + 60 := by unfold wrap64; omega
  rw [e1, Int.tmod_eq_emod_of_nonneg (by omega)]
  omega
end Go.Proofs.Ytbebhcdnnfgchaa
