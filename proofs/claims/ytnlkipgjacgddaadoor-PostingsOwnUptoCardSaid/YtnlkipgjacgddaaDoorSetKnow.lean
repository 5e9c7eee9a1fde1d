/-
  What the law's knows answers. No condition.
-/
import Derived.Test.YtnlkipgjacgddaaDoorSetPut
namespace Go.Proofs.YtnlkipgjacgddaaDoor
open Go.RowKit Go.Icz
theorem RdI.lit (w : World) (l : List Int) (n : Nat) (hn : w.heap.size = n) (hl : l.length ≤ maxLen) : RdI (w.alloc (.cells (cellsI l).toArray 3)) (.slice (some ⟨n, 0, none⟩) l.length l.length) l := by
  subst hn
  exact (OwnI.lit (B := w.heap.size) w l hl (Nat.le_refl _)).rd
theorem RdI.lit3 (w : World) (a b c : Int) (n : Nat) (hn : w.heap.size = n) : RdI (w.alloc (.cells #[.int .i64 a, .int .i64 b, .int .i64 c] 3)) (.slice (some ⟨n, 0, none⟩) 3 3) [a, b, c] := RdI.lit w [a, b, c] n hn (by show 3 ≤ maxLen; decide)
theorem RdI.lit2 (w : World) (a b : Int) (n : Nat) (hn : w.heap.size = n) : RdI (w.alloc (.cells #[.int .i64 a, .int .i64 b] 3)) (.slice (some ⟨n, 0, none⟩) 2 2) [a, b] := RdI.lit w [a, b] n hn (by show 2 ≤ maxLen; decide)
theorem RdI.lit1 (w : World) (a : Int) (n : Nat) (hn : w.heap.size = n) : RdI (w.alloc (.cells #[.int .i64 a] 3)) (.slice (some ⟨n, 0, none⟩) 1 1) [a] := RdI.lit w [a] n hn (by show 1 ≤ maxLen; decide)
theorem know_right : rightI [5, 6, 9] = true := by decide +kernel
theorem know_bytes : listB [5, 6, 9] = [3, 5, 0, 2] := by
  have n3 : num 3 = [3] := num_lo (by omega)
  have n5 : num 5 = [5] := num_lo (by omega)
  have n0 : num 0 = [0] := num_lo (by omega)
  have n2 : num 2 = [2] := num_lo (by omega)
  show num 3 ++ (num 5 ++ (num 0 ++ (num 2 ++ []))) = _
  rw [n3, n5, n0, n2]
  rfl
theorem know_and {l : List Int} (h : Rises l (fun x => x ∈ [1, 3, 5] ∧ x ∈ [3, 4, 5])) : l = [3, 5] :=
  Rises.one h (T := fun x => x ∈ [3, 5]) ⟨by decide, fun _ => Iff.rfl⟩ fun x => by simp; omega
theorem know_not {l : List Int} (h : Rises l (fun x => x ∈ [1, 3] ∧ ¬ x ∈ [3])) : l = [1] :=
  Rises.one h (T := fun x => x ∈ [1]) ⟨by decide, fun _ => Iff.rfl⟩ fun x => by simp; omega
set_option maxHeartbeats 2000000 in
set_option maxRecDepth 100000 in
theorem knows5_is (w : World) : Calls Tryd.prog 5 #[] w fun e w' => e = .returned (.bool true) ∧ Below w.heap.size w w' := by
  have hP := fun w1 n (hn : w1.heap.size = n) => PPut_is _ _ _ (RdI.lit3 w1 5 6 9 n hn) (by decide)
  unfold PutOut at hP
  rw [know_right, if_pos rfl, if_pos rfl, know_bytes] at hP
  have hA := fun w1 n m (hn : w1.heap.size = n) (hm : (w1.alloc (.cells #[.int .i64 1, .int .i64 3, .int .i64 5] 3)).heap.size = m) => And_is _ _ _ _ _ ((RdI.lit3 w1 1 3 5 n hn).alloc _) (RdI.lit3 _ 3 4 5 m hm) (by decide) (by decide)
  have hN := fun w1 n m (hn : w1.heap.size = n) (hm : (w1.alloc (.cells #[.int .i64 1, .int .i64 3] 3)).heap.size = m) => Not_is _ _ _ _ _ ((RdI.lit2 w1 1 3 n hn).alloc _) (RdI.lit1 _ 3 m hm) (by decide) (by decide)
  have hI2 := fun v w1 n (hn : w1.heap.size = n) (h : RdI w1 v [3, 5]) => Ints_yes _ _ _ _ _ (h.alloc _) (RdI.lit2 w1 3 5 n hn) (by decide) rfl
  have hI1 := fun v w1 n (hn : w1.heap.size = n) (h : RdI w1 v [1]) => Ints_yes _ _ _ _ _ (h.alloc _) (RdI.lit1 w1 1 n hn) (by decide) rfl
  unfold RiseOut at hA hN
  have t1 := True.intro
  go_enter Tryd.func5, Tryd.ntmps5
  go_wp2_with (first
    | (go_at_call 17; go_loud (refine (hP _ _ rfl).mono ?_; rintro e w1 ⟨v1, rfl, rv, b1'⟩; have b1 : Below w.heap.size w w1 := below_push b1'; have cx := conv_rd std rv; rw [show str [3, 5, 0, 2] = ⟨#[3, 5, 0, 2]⟩ from rfl] at cx; clear hP))
    | (go_at_call 11; refine (num5_is _ _).mono ?_; rintro e w13 ⟨rfl, rfl⟩)
    | (go_at_call 15; go_loud (refine (hA w1 _ _ rfl (by simp)).mono ?_; rintro e w2 ⟨v2, l2, rfl, o2, rs2, -, b2'⟩; obtain rfl := know_and rs2; have b2 := b1.trans ((below_push (below_push b2')).mono b1.size); clear hA; have r2 := o2.rd))
    | (clear t1; go_at_call 13; go_loud (refine (hI2 _ _ _ rfl r2).mono ?_; rintro e w3 ⟨rfl, b3'⟩; have b3 := b2.trans ((below_push b3').mono b2.size); clear hI2))
    | (go_at_call 18; go_loud (refine (hN w3 _ _ rfl (by simp)).mono ?_; rintro e w4 ⟨v4, l4, rfl, o4, rs4, -, b4'⟩; obtain rfl := know_not rs4; have b4 := b3.trans ((below_push (below_push b4')).mono b3.size); clear hN; have r4 := o4.rd))
    | (go_at_call 13; go_loud (refine (hI1 _ _ _ rfl r4).mono ?_; rintro e w5 ⟨rfl, b5'⟩; have b5 := b4.trans ((below_push b5').mono b4.size); clear hI1))
    | fail)
  go_ret
  exact ⟨rfl, b5⟩
end Go.Proofs.YtnlkipgjacgddaaDoor
