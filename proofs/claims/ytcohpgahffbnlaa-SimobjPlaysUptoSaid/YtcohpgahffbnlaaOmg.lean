/-
  No store, and one that nobody made: what its calls answer; SimobjNil's walk. No condition.
-/
import Derived.Test.YtcohpgahffbnlaaOmf
namespace Go.Proofs.Ytcohpgahffbnlaa
open Go.RowKit Go.Icz Go.Maps Go.ChangeMaps Go.MapKept
set_option maxRecDepth 100000
set_option maxHeartbeats 4000000
variable {w : World}
theorem Get_no {v : Value} (h : StZ w v) (k : ByteArray) : Calls Try.prog 13 #[v, .string k] w fun e w' => e = .returned (.tuple #[.slice none 0 0, .int .i64 1]) ∧ w' = w := by
  have hM := made_no h
  clear h
  go_enter Try.func13, Try.ntmps13
  go_wp2_with (go_at_call 32; refine hM.mono ?_; rintro e1 w1 ⟨rfl, rfl⟩; clear hM)
  go_ret2
  exact ⟨rfl, rfl⟩
theorem List_no {v : Value} (h : StZ w v) (k : ByteArray) : Calls Try.prog 12 #[v, .string k] w fun e w' => e = .returned (.tuple #[.slice none 0 0, .int .i64 1]) ∧ w' = w := by
  have hM := made_no h
  clear h
  go_enter Try.func12, Try.ntmps12
  go_wp2_with (go_at_call 32; refine hM.mono ?_; rintro e1 w1 ⟨rfl, rfl⟩; clear hM)
  go_ret2
  exact ⟨rfl, rfl⟩
theorem Put_no {v : Value} (h : StZ w v) (k : ByteArray) (A : Option Addr) (n c : Nat) : Calls Try.prog 10 #[v, .string k, .slice A n c] w fun e w' => e = .returned (.int .i64 1) ∧ w' = w := by
  have hM := made_no h
  clear h
  go_enter Try.func10, Try.ntmps10
  go_wp2_with (go_at_call 32; refine hM.mono ?_; rintro e1 w1 ⟨rfl, rfl⟩; clear hM)
  go_ret
  exact ⟨rfl, rfl⟩
theorem Delete_no {v : Value} (h : StZ w v) (k : ByteArray) : Calls Try.prog 20 #[v, .string k] w fun e w' => e = .returned (.int .i64 1) ∧ w' = w := by
  have hM := made_no h
  clear h
  go_enter Try.func20, Try.ntmps20
  go_wp2_with (go_at_call 32; refine hM.mono ?_; rintro e1 w1 ⟨rfl, rfl⟩; clear hM)
  go_ret
  exact ⟨rfl, rfl⟩
theorem Tick_no {v : Value} (h : StZ w v) (n : Int) : Calls Try.prog 9 #[v, .int .i64 n] w fun e w' => e = .returned (.int .i64 1) ∧ w' = w := by
  have hM := made_no h
  clear h
  go_enter Try.func9, Try.ntmps9
  go_wp2_with (go_at_call 32; refine hM.mono ?_; rintro e1 w1 ⟨rfl, rfl⟩; clear hM)
  go_ret
  exact ⟨rfl, rfl⟩
theorem Lag_no {v : Value} (h : StZ w v) (n : Int) : Calls Try.prog 11 #[v, .int .i64 n] w fun e w' => e = .returned (.int .i64 1) ∧ w' = w := by
  have hM := made_no h
  clear h
  go_enter Try.func11, Try.ntmps11
  go_wp2_with (go_at_call 32; refine hM.mono ?_; rintro e1 w1 ⟨rfl, rfl⟩; clear hM)
  go_ret
  exact ⟨rfl, rfl⟩
theorem Now_no {v : Value} (h : StZ w v) : Calls Try.prog 14 #[v] w fun e w' => e = .returned (.int .i64 0) ∧ Below w.heap.size w w' := by
  have hL := looked_no h
  have ba := (Below.refl w.heap.size w).alloc (Nat.le_refl _) (.cells roZ 42)
  have c0 : (w.alloc (.cells roZ 42)).cell? ⟨w.heap.size, 2, none⟩ = some (.int .i64 0) := held_cell (heap_alloc_new w _) rfl
  generalize hW : w.alloc (.cells roZ 42) = W at *
  clear h hW
  go_enter Try.func14, Try.ntmps14
  go_wp2_with (go_at_call 41; refine hL.mono ?_; rintro e1 w1 ⟨rfl, rfl⟩; clear hL)
  go_ret
  exact ⟨rfl, ba⟩
theorem Calls_no {v : Value} (h : StZ w v) : Calls Try.prog 15 #[v] w fun e w' => e = .returned (.int .i64 0) ∧ Below w.heap.size w w' := by
  have hL := looked_no h
  have ba := (Below.refl w.heap.size w).alloc (Nat.le_refl _) (.cells roZ 42)
  have c0 : (w.alloc (.cells roZ 42)).cell? ⟨w.heap.size, 5, none⟩ = some (.int .i64 0) := held_cell (heap_alloc_new w _) rfl
  generalize hW : w.alloc (.cells roZ 42) = W at *
  clear h hW
  go_enter Try.func15, Try.ntmps15
  go_wp2_with (go_at_call 41; refine hL.mono ?_; rintro e1 w1 ⟨rfl, rfl⟩; clear hL)
  go_ret
  exact ⟨rfl, ba⟩
theorem Keys_no {v : Value} (h : StZ w v) : Calls Try.prog 30 #[v] w fun e w' => e = .returned (.slice none 0 0) ∧ Below w.heap.size w w' := by
  have hL := looked_no h
  have ba := (Below.refl w.heap.size w).alloc (Nat.le_refl _) (.cells roZ 42)
  have c0 : (w.alloc (.cells roZ 42)).cell? ⟨w.heap.size, 0, none⟩ = some (.map none) := held_cell (heap_alloc_new w _) rfl
  generalize hW : w.alloc (.cells roZ 42) = W at *
  have cK : Calls Try.prog 50 #[.map none] W fun e w' => e = .returned (.func (.func 66) #[] #[.pointer (some ⟨W.heap.size, 0, none⟩)]) ∧ w' = W.alloc (.cells #[.map none] 37) := callsIn_wide.1 (keysO_is none W)
  have cS := callsIn_wide.1 (Go.Proofs.Try.sortO_nil W)
  clear h hW
  go_enter Try.func30, Try.ntmps30
  go_wp2_with (first
    | (go_at_call 41; refine hL.mono ?_; rintro e1 w1 ⟨rfl, rfl⟩; clear hL)
    | (go_at_call 50; refine cK.mono ?_; rintro e2 w2 ⟨rfl, rfl⟩; clear cK)
    | (go_at_call 49; refine cS.mono ?_; rintro e3 w3 ⟨rfl, b3⟩; clear cS))
  go_ret
  exact ⟨rfl, ba.trans (b3.mono ba.size)⟩
theorem Look_no {v : Value} (h : StZ w v) (k : ByteArray) (hk : k.size ≤ maxLen) : Calls Try.prog 28 #[v, .string k] w fun e w' => e = .returned (.tuple #[.slice none 0 0, .bool false]) ∧ Below w.heap.size w w' := by
  have hL := looked_no h
  have ba := (Below.refl w.heap.size w).alloc (Nat.le_refl _) (.cells roZ 42)
  have c0 : (w.alloc (.cells roZ 42)).cell? ⟨w.heap.size, 0, none⟩ = some (.map none) := held_cell (heap_alloc_new w _) rfl
  generalize hW : w.alloc (.cells roZ 42) = W at *
  have hlk : (Instr.lookup 37 (.map none) (.string k) true).run Try.prog W = .ok (.tuple #[.slice none 0 0, .bool false]) W := Maps.look_nil true (string_keyed Try.underlying9) Try.underlying37 (Try.zeroValue32 W) (keyS hk)
  have hC : Calls Try.prog 48 #[.slice none 0 0] W fun e w' => e = .returned (.slice none 0 0) ∧ w' = W := by
    have hn := Lib.run_eql_slice_nil (P := Try.prog)
    clear hL hlk
    go_enter Try.func48, Try.ntmps48
    go_wp2
    go_ret
    exact ⟨rfl, rfl⟩
  clear h hW
  go_enter Try.func28, Try.ntmps28
  go_wp2_with (first
    | (go_at_call 41; refine hL.mono ?_; rintro e1 w1 ⟨rfl, rfl⟩; clear hL)
    | (go_at_call 48; refine hC.mono ?_; rintro e2 w2 ⟨rfl, rfl⟩; clear hC))
  go_ret2
  exact ⟨rfl, ba⟩
theorem Fail_no {v : Value} (h : StZ w v) (k : Int) (d : Bool) : Calls Try.prog 26 #[v, .int .i64 k, .bool d] w fun e w' => e = .returned (.tuple #[]) ∧ Below w.heap.size w w' := by
  have hL := looked_no h
  have ba := (Below.refl w.heap.size w).alloc (Nat.le_refl _) (.cells roZ 42)
  have r0 := heap_alloc_new w (.cells roZ 42)
  have c6 : (w.alloc (.cells roZ 42)).cell? ⟨w.heap.size, 6, none⟩ = some (.int .i64 0) := held_cell r0 rfl
  have c7 : (w.alloc (.cells roZ 42)).cell? ⟨w.heap.size, 7, none⟩ = some (.bool false) := held_cell r0 rfl
  have c7' : (w.alloc (.cells roZ 42)).cell? ⟨w.heap.size, 6 + 1, none⟩ = some (.bool false) := held_cell r0 rfl
  have e6 := held_frozen (i := 6) r0
  have e7 := held_frozen (i := 7) r0
  have e7' : (w.alloc (.cells roZ 42)).frozen? ⟨w.heap.size, 6 + 1, none⟩ = false := held_frozen (i := 7) r0
  have hF : Calls Try.prog 47 #[.pointer (some ⟨w.heap.size, 6, none⟩), .int .i64 k, .bool d] (w.alloc (.cells roZ 42)) fun e w' => e = .returned (.tuple #[]) ∧ Below w.heap.size w w' := by
    have HB : Hid (Below w.heap.size w ((((w.alloc (.cells roZ 42)).setCell ⟨w.heap.size, 6, none⟩ (.int .i64 (max k 0))).setCell ⟨w.heap.size, 7, none⟩ (.bool d)))) := hid (Tch.below ba ((Tch.set (· = w.heap.size) _ ⟨w.heap.size, 6, none⟩ _ rfl).trans (Tch.set (· = w.heap.size) _ ⟨w.heap.size, 7, none⟩ _ rfl)) (fun j hj => by rw [hj]; exact Nat.le_refl _) ba.size)
    generalize hW : w.alloc (.cells roZ 42) = W at *
    clear h hL ba r0 hW
    go_enter Try.func47, Try.ntmps47
    go_wp2
    go_end0
    exact ⟨rfl, HB.out⟩
  generalize hW : w.alloc (.cells roZ 42) = W at *
  clear h hW ba r0 c6 c7 c7' e6 e7 e7'
  go_enter Try.func26, Try.ntmps26
  go_wp2_with (first
    | (go_at_call 41; refine hL.mono ?_; rintro e1 w1 ⟨rfl, rfl⟩; clear hL)
    | (go_at_call 47; refine hF.mono ?_; rintro e2 w2 ⟨rfl, D2⟩; clear hF))
  go_end0
  exact ⟨rfl, D2⟩
end Go.Proofs.Ytcohpgahffbnlaa
