/-
  What the law's knows answers: true. Condition: the tables of package utf8 and of math/bits are in place.
-/
import Derived.Test.YthgmmloocdfphaaGreatDoorParse
import Derived.Test.YthgmmloocdfphaaGreatDoorPrint
namespace Go.Proofs.YthgmmloocdfphaaGreatDoor
open Go.RowKit Go.Icz

def k0 : B8 := [123, 98, 61, 34, 49, 34, 44, 32, 97, 61, 34, 120, 34, 125]
def kA : Lab := ([97], [120])
def kB : Lab := ([98], [49])
theorem k_parse : parseS k0 = some [kB, kA] := by decide +kernel
theorem k_right : rightS [kA, kB] = true := by decide +kernel
theorem k_no : (92 : UInt8) ∉ k0 := by decide
theorem k_sorted (d : List Lab) (h : Sorts [kB, kA] d) : d = [kA, kB] := by
  obtain ⟨hp, hs⟩ := h
  have hl := hp.length_eq
  match d, hl with
  | [x, y], _ =>
    have hx : x ∈ [kB, kA] := hp.subset (by simp)
    have hy : y ∈ [kB, kA] := hp.subset (by simp)
    have h1 := List.Pairwise.rel_of_mem_take_of_mem_drop (i := 1) hs (x := x) (y := y) (by simp) (by simp)
    simp at hx hy
    rcases hx with rfl | rfl
    · rcases hy with rfl | rfl
      · exfalso
        have := hp.count_eq kB
        revert this
        decide
      · exfalso
        revert h1
        decide
    · rcases hy with rfl | rfl
      · rfl
      · exfalso
        have := hp.count_eq kA
        revert this
        decide
theorem k_print : printS [kA, kB] = [123, 97, 61, 34, 120, 34, 44, 32, 98, 61, 34, 49, 34, 125] := by decide +kernel
theorem k_quote : quoteS [9] = [34, 92, 117, 123, 57, 125, 34] := by decide +kernel
theorem num_is (n : Int) (w : World) : Calls Tryz.prog 16 #[.int .i64 n] w fun e w' => e = .returned (.int .i64 n) ∧ w = w' := by
  go_enter Tryz.func16, Tryz.ntmps16
  go_wp2
  go_ret
  exact ⟨rfl, rfl⟩
set_option maxHeartbeats 1000000 in
set_option maxRecDepth 100000 in
theorem knows_is (w : World) (hT : Tabs w) : Calls Tryz.prog 17 #[] w fun e w' => e = .returned (.bool true) ∧ Below w.heap.size w w' := by
  have hP := Parse_is k0 w (by decide) hT (MeantL.of_no k_no)
  have hP2 : Calls Tryz.prog 11 #[.string ⟨k0.toArray⟩] w fun e w' => ∃ v, e = .returned (.tuple #[v, .int .i64 0]) ∧ RdL w' v [kA, kB] ∧ Below w.heap.size w w' := by
    refine hP.mono ?_
    rintro e w' ⟨h, hb⟩
    rw [k_parse] at h
    rcases h with ⟨h, _⟩ | ⟨d, hd, ⟨_, v, rfl, hv⟩ | ⟨h, _⟩⟩
    · exact absurd h (by decide)
    · rw [k_sorted d hd] at hv
      exact ⟨v, rfl, hv, hb⟩
    · rw [k_sorted d hd, k_right] at h
      cases h
  have hPr := fun v w hR hT => Print_is v [kA, kB] w hR hT (by decide)
  rw [k_print] at hPr
  have n1 : nameS [97, 95, 49] = true := by decide
  have n2 : nameS [49] = false := by decide
  have v1 : valueS [120] = true := by decide +kernel
  have hN1 := fun w => Name_is ⟨#[97, 95, 49]⟩ w (by decide)
  have hN2 := fun w => Name_is ⟨#[49]⟩ w (by decide)
  have hV1 := fun w hT => Value_is ⟨#[120]⟩ w (by decide) hT
  have hQ := fun w hT => Quote_is ⟨#[9]⟩ w (by decide) hT
  have e1 : (⟨#[97, 95, 49]⟩ : ByteArray).data.toList = [97, 95, 49] := rfl
  have e2 : (⟨#[49]⟩ : ByteArray).data.toList = [49] := rfl
  have e3 : (⟨#[120]⟩ : ByteArray).data.toList = [120] := rfl
  have e4 : (⟨#[9]⟩ : ByteArray).data.toList = [9] := rfl
  rw [e1, n1] at hN1
  rw [e2, n2] at hN2
  rw [e3, v1] at hV1
  rw [e4, k_quote] at hQ
  clear hP e1 e2 e3 e4 n1 n2 v1
  go_enter Tryz.func17, Tryz.ntmps17
  go_wp2_with (first | (go_at_call 11; refine hP2.mono ?_; rintro e w1 ⟨v, rfl, hR, b1⟩; clear hP2; have hT1 := hT.below b1) | (go_at_call 16; refine (num_is _ _).mono ?_; rintro e w9 ⟨rfl, rfl⟩) | (go_at_call 13; refine (hPr _ _ hR hT1).mono ?_; rintro e w2 ⟨rfl, b2⟩; have hT2 := hT1.below b2; clear hPr) | (go_at_call 47; refine (hN1 _).mono ?_; rintro e w3 ⟨rfl, b3⟩; have hT3 := hT2.below b3; clear hN1) | (go_at_call 47; refine (hN2 _).mono ?_; rintro e w4 ⟨rfl, b4⟩; have hT4 := hT3.below b4; clear hN2) | (go_at_call 48; refine (hV1 _ hT4).mono ?_; rintro e w5 ⟨rfl, b5⟩; have hT5 := hT4.below b5; clear hV1) | (go_at_call 43; refine (hQ _ hT5).mono ?_; rintro e w6 ⟨rfl, b6⟩; clear hQ))
  go_ret
  have z1 := b1.size
  have z2 := b2.size
  have z3 := b3.size
  have z4 := b4.size
  have z5 := b5.size
  exact ⟨rfl, b1.trans ((b2.trans ((b3.trans ((b4.trans ((b5.trans (b6.mono z5)).mono z4)).mono z3)).mono z2)).mono z1)⟩
end Go.Proofs.YthgmmloocdfphaaGreatDoor
