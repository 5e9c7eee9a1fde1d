/-
  SimdiskFaults: the calls on two disks. Conditions: those that each theorem names.
-/
import Derived.Test.YtjpneohachkheaaSpf
import Derived.Test.YtjpneohachkheaaStx
namespace Go.Proofs.Ytjpneohachkheaa
open Go.RowKit Go.Icz Go.Maps
set_option maxRecDepth 100000
variable {w w' : World} {bd c c' q0 p0 q1 p1 : Nat} {M0 M1 M M' : DM}
theorem two_do (h : Two w bd c q0 p0 M0 q1 p1 M1) (hbd : bd ≤ w.heap.size) (o : OpD) {B : Nat} (ok : OpOk w B o) (hB : B ≤ bd) (hb : c + 2 ≤ 1048576) :
    Calls Try.prog 25 #[.pointer (some ⟨q0, 0, none⟩), .agg o.cells] w fun e w' => e = .returned (.tuple #[]) ∧ Two w' bd (c + 2) q0 p0 (doO o M0) q1 p1 M1 ∧ Below bd w w' := by
  obtain ⟨T, hT, hTb, D, K⟩ := h.first hbd
  refine (do_is D hT o ok (fun k hk => Nat.le_trans hB (hTb k hk)) hb).mono ?_
  rintro e w2 ⟨rfl, Dn⟩
  exact ⟨rfl, K _ _ _ (by omega) hb Dn⟩
theorem two_fail (h : Two w bd c q0 p0 M0 q1 p1 M1) (hbd : bd ≤ w.heap.size) (k : Int) (d : Bool) (hk : k ≤ 9223372036854775807) (hb : c ≤ 1048576) :
    Calls Try.prog 8 #[.pointer (some ⟨q0, 0, none⟩), .int .i64 k, .bool d] w fun e w' => e = .returned (.tuple #[]) ∧ Two w' bd c q0 p0 (failM M0 k d) q1 p1 M1 ∧ Below bd w w' := by
  obtain ⟨T, hT, hTb, D, K⟩ := h.first hbd
  refine (Fail_d D k d hk).mono ?_
  rintro e w2 ⟨rfl, Dn⟩
  exact ⟨rfl, K _ _ _ (by omega) hb Dn⟩
theorem two_crash (h : Two w bd c q0 p0 M0 q1 p1 M1) (hbd : bd ≤ w.heap.size) {A : Option Addr} {L C : Nat} {keep : List Bool} (hk : KBo.Rd w (.slice A L C) keep) (hfar : 0 < keep.length → ∀ b, (Value.slice A L C).ownBlock = some b → b < bd) (hb : c + c ≤ 1048576) :
    Calls Try.prog 10 #[.pointer (some ⟨q0, 0, none⟩), .slice A L C] w fun e w' => e = .returned (.tuple #[]) ∧ Two w' bd c q0 p0 (crashM M0 keep) q1 p1 M1 ∧ Below bd w w' := by
  obtain ⟨T, hT, hTb, D, K⟩ := h.first hbd
  refine (Crash_d D hT hb hk (fun h0 b hb' hk => by have := hfar h0 b hb'; have := hTb b hk; omega)).mono ?_
  rintro e w2 ⟨rfl, Dn⟩
  exact ⟨rfl, K _ _ _ (by omega) (by omega) Dn⟩
end Go.Proofs.Ytjpneohachkheaa
