/-
  What no disk answers, and one that nobody made. No condition but those that each theorem names.
-/
import Derived.Test.YtjpneohachkheaaSmd
import Derived.Laws.IdiomRangeMap
namespace Go.Proofs.Ytjpneohachkheaa
open Go.RowKit Go.Icz Go.Maps Go.ChangeMaps Go.MapKept
set_option maxRecDepth 100000
set_option maxHeartbeats 2000000
variable {w w' : World}
theorem operate_no {v : Value} (h : DiZ w v) (t : TypeId) (u : Value) : Calls Try.prog 39 #[v, .iface t u] w fun e w' => e = .returned (.int .i64 1) ∧ w' = w := by
  have hR := ready_no h
  clear h
  go_enter Try.func39, Try.ntmps39
  go_wp2_with (go_at_call 37; refine hR.mono ?_; rintro e1 w1 ⟨rfl, rfl⟩; clear hR)
  go_ret
  exact ⟨rfl, rfl⟩
theorem Create_no {v : Value} (h : DiZ w v) (k : ByteArray) : Calls Try.prog 13 #[v, .string k] w fun e w' => e = .returned (.int .i64 1) ∧ Below w.heap.size w w' := by
  have ba := (Below.refl w.heap.size w).alloc (Nat.le_refl _) (.cells #[.slice none 0 0, .int .i64 0, .slice none 0 0] 82)
  have hO := operate_no (h.below ba) 85 (.agg #[.string k, .pointer (some ⟨w.heap.size, 0, none⟩)])
  clear h
  go_enter Try.func13, Try.ntmps13
  go_wp2_with (go_at_call 39; refine hO.mono ?_; rintro e1 w1 ⟨rfl, rfl⟩; clear hO)
  go_ret
  exact ⟨rfl, ba⟩
theorem Append_no {v : Value} (h : DiZ w v) (k : ByteArray) (A : Option Addr) (L C : Nat) : Calls Try.prog 14 #[v, .string k, .slice A L C] w fun e w' => e = .returned (.int .i64 1) ∧ w' = w := by
  have hO := operate_no h 87 (.agg #[.string k, .slice A L C])
  clear h
  go_enter Try.func14, Try.ntmps14
  go_wp2_with (go_at_call 39; refine hO.mono ?_; rintro e1 w1 ⟨rfl, rfl⟩; clear hO)
  go_ret
  exact ⟨rfl, rfl⟩
theorem Rename_no {v : Value} (h : DiZ w v) (a b : ByteArray) : Calls Try.prog 15 #[v, .string a, .string b] w fun e w' => e = .returned (.int .i64 1) ∧ w' = w := by
  have hO := operate_no h 89 (.agg #[.string a, .string b])
  clear h
  go_enter Try.func15, Try.ntmps15
  go_wp2_with (go_at_call 39; refine hO.mono ?_; rintro e1 w1 ⟨rfl, rfl⟩; clear hO)
  go_ret
  exact ⟨rfl, rfl⟩
theorem Remove_no {v : Value} (h : DiZ w v) (k : ByteArray) : Calls Try.prog 16 #[v, .string k] w fun e w' => e = .returned (.int .i64 1) ∧ w' = w := by
  have hO := operate_no h 91 (.agg #[.string k])
  clear h
  go_enter Try.func16, Try.ntmps16
  go_wp2_with (go_at_call 39; refine hO.mono ?_; rintro e1 w1 ⟨rfl, rfl⟩; clear hO)
  go_ret
  exact ⟨rfl, rfl⟩
theorem Sync_no {v : Value} (h : DiZ w v) (k : ByteArray) : Calls Try.prog 17 #[v, .string k] w fun e w' => e = .returned (.int .i64 1) ∧ w' = w := by
  have hO := operate_no h 92 (.agg #[.string k])
  clear h
  go_enter Try.func17, Try.ntmps17
  go_wp2_with (go_at_call 39; refine hO.mono ?_; rintro e1 w1 ⟨rfl, rfl⟩; clear hO)
  go_ret
  exact ⟨rfl, rfl⟩
theorem SyncDir_no {v : Value} (h : DiZ w v)  : Calls Try.prog 18 #[v] w fun e w' => e = .returned (.int .i64 1) ∧ w' = w := by
  have hO := operate_no h 94 (.agg #[])
  clear h
  go_enter Try.func18, Try.ntmps18
  go_wp2_with (go_at_call 39; refine hO.mono ?_; rintro e1 w1 ⟨rfl, rfl⟩; clear hO)
  go_ret
  exact ⟨rfl, rfl⟩
theorem Read_no {v : Value} (h : DiZ w v) (k : ByteArray) : Calls Try.prog 11 #[v, .string k] w fun e w' => e = .returned (.tuple #[.slice none 0 0, .int .i64 1]) ∧ w' = w := by
  have hR := ready_no h
  clear h
  go_enter Try.func11, Try.ntmps11
  go_wp2_with (go_at_call 37; refine hR.mono ?_; rintro e1 w1 ⟨rfl, rfl⟩; clear hR)
  go_ret2
  exact ⟨rfl, rfl⟩
theorem mbytes_nil (w : World) : Calls Try.prog 40 #[.map none] w fun e w' => e = .returned (.int .i64 0) ∧ Below w.heap.size w w' := by
  have hrg : ∀ wx : World, (Instr.range 66 (.map none)).run Try.prog wx = _ := fun wx => run_range_nilMap wx 66 9 74 Try.underlying66
  have ba := (Below.refl w.heap.size w).alloc (Nat.le_refl _) (.mapIter none 0 #[] 0)
  have hnx := run_next_nilMap (P := Try.prog) w 0 0 0 #[]
  go_enter Try.func40, Try.ntmps40
  go_wp2
  go_loopw [3] (fun sv wr => sv = .int .i64 0 ∧ wr = w.alloc (.mapIter none 0 #[] 0)) (fun _ _ => 0)
  case atStart => exact ⟨rfl, rfl⟩
  case round =>
    obtain ⟨rfl, rfl⟩ := hrel
    go_wp2
    go_ret
    exact ⟨rfl, ba⟩
def wz (w : World) : World := w.alloc (.cells plZ 69)
theorem List_no {v : Value} (h : DiZ w v) : Calls Try.prog 19 #[v] w fun e w' => e = .returned (.slice none 0 0) ∧ Below w.heap.size w w' := by
  have hL := looked_no h
  have ba := (Below.refl w.heap.size w).alloc (Nat.le_refl _) (.cells plZ 69)
  have c5 : (w.alloc (.cells plZ 69)).cell? ⟨w.heap.size, 5, none⟩ = some (.map none) := held_cell (heap_alloc_new w _) rfl
  have hR := rising_nil (w.alloc (.cells plZ 69))
  generalize hW : w.alloc (.cells plZ 69) = W at *
  clear h hW
  go_enter Try.func19, Try.ntmps19
  go_wp2_with (first
    | (go_at_call 28; refine hL.mono ?_; rintro e1 w1 ⟨rfl, rfl⟩; clear hL)
    | (go_at_call 33; refine hR.mono ?_; rintro e2 w2 ⟨rfl, b2⟩; clear hR))
  go_ret
  exact ⟨rfl, ba.trans (b2.mono ba.size)⟩
theorem Used_no {v : Value} (h : DiZ w v) : Calls Try.prog 20 #[v] w fun e w' => e = .returned (.int .i64 0) ∧ Below w.heap.size w w' := by
  have hL := looked_no h
  have ba := (Below.refl w.heap.size w).alloc (Nat.le_refl _) (.cells plZ 69)
  have c5 : (w.alloc (.cells plZ 69)).cell? ⟨w.heap.size, 5, none⟩ = some (.map none) := held_cell (heap_alloc_new w _) rfl
  have hR := mbytes_nil (w.alloc (.cells plZ 69))
  generalize hW : w.alloc (.cells plZ 69) = W at *
  clear h hW
  go_enter Try.func20, Try.ntmps20
  go_wp2_with (first
    | (go_at_call 28; refine hL.mono ?_; rintro e1 w1 ⟨rfl, rfl⟩; clear hL)
    | (go_at_call 40; refine hR.mono ?_; rintro e2 w2 ⟨rfl, b2⟩; clear hR))
  go_ret
  exact ⟨rfl, ba.trans (b2.mono ba.size)⟩
theorem Down_no {v : Value} (h : DiZ w v) : Calls Try.prog 22 #[v] w fun e w' => e = .returned (.bool false) ∧ Below w.heap.size w w' := by
  have hL := looked_no h
  have ba := (Below.refl w.heap.size w).alloc (Nat.le_refl _) (.cells plZ 69)
  have c0 : (w.alloc (.cells plZ 69)).cell? ⟨w.heap.size, 2, none⟩ = some (.bool false) := held_cell (heap_alloc_new w _) rfl
  generalize hW : w.alloc (.cells plZ 69) = W at *
  clear h hW
  go_enter Try.func22, Try.ntmps22
  go_wp2_with (go_at_call 28; refine hL.mono ?_; rintro e1 w1 ⟨rfl, rfl⟩; clear hL)
  go_ret
  exact ⟨rfl, ba⟩
theorem Free_no {v : Value} (h : DiZ w v) : Calls Try.prog 21 #[v] w fun e w' => e = .returned (.int .i64 0) ∧ Below w.heap.size w w' := by
  have bb : Below w.heap.size w w.drew := ⟨rfl, rfl, rfl, Nat.le_refl _, fun _ _ => rfl⟩
  have hL : ∀ w1, Below w.heap.size w w1 → Calls Try.prog 28 #[v] w1 fun e w' => ∃ x, e = .returned (.pointer (some ⟨x, 0, none⟩)) ∧ Below w.heap.size w w' ∧ w'.cell? ⟨x, 4, none⟩ = some (.int .i64 0) ∧ x < w'.heap.size := fun w1 b1 => by
    refine (looked_no (h.below b1)).mono ?_
    rintro e w2 ⟨rfl, rfl⟩
    exact ⟨_, rfl, b1.alloc b1.size _, held_cell (heap_alloc_new w1 _) rfl, by rw [World.size_alloc]; exact Nat.lt_succ_self _⟩
  have hU : ∀ w1, Below w.heap.size w w1 → Calls Try.prog 20 #[v] w1 fun e w' => e = .returned (.int .i64 0) ∧ Below w.heap.size w w' ∧ Below w1.heap.size w1 w' := fun w1 b1 => by
    refine (Used_no (h.below b1)).mono ?_
    rintro e w2 ⟨rfl, b2⟩
    exact ⟨rfl, b1.trans (b2.mono b1.size), b2⟩
  clear h
  go_enter Try.func21, Try.ntmps21
  go_wp2_with fail
  go_region_with (first
    | (go_at_call 28; refine (hL _ bb).mono ?_; rintro e1 w1 ⟨x, rfl, bb, c4, hx⟩)
    | (go_at_call 20; refine (hU _ bb).mono ?_; rintro e2 w2 ⟨rfl, bb, b2⟩; try (have c4 := (b2.cell (p := ⟨x, 4, none⟩) hx).trans c4)))
  all_goals (go_wp2; go_ret; exact ⟨rfl, bb⟩)
theorem Fail_no {v : Value} (h : DiZ w v) (k : Int) (d : Bool) : Calls Try.prog 8 #[v, .int .i64 k, .bool d] w fun e w' => e = .returned (.tuple #[]) ∧ Below w.heap.size w w' := by
  have hL := looked_no h
  have ba := (Below.refl w.heap.size w).alloc (Nat.le_refl _) (.cells plZ 69)
  have r0 := heap_alloc_new w (.cells plZ 69)
  have c2 : (w.alloc (.cells plZ 69)).cell? ⟨w.heap.size, 0, none⟩ = some (.int .i64 0) := held_cell r0 rfl
  have c3 : (w.alloc (.cells plZ 69)).cell? ⟨w.heap.size, 1, none⟩ = some (.bool false) := held_cell r0 rfl
  have e2 := held_frozen (i := 0) r0
  have e3 := held_frozen (i := 1) r0
  have hF : Calls Try.prog 29 #[.pointer (some ⟨w.heap.size, 0, none⟩), .int .i64 k, .bool d] (w.alloc (.cells plZ 69)) fun e w' => e = .returned (.tuple #[]) ∧ Below w.heap.size w w' := by
    have HB : Hid (Below w.heap.size w ((((w.alloc (.cells plZ 69)).setCell ⟨w.heap.size, 0, none⟩ (.int .i64 (max k 0))).setCell ⟨w.heap.size, 1, none⟩ (.bool d)))) := hid (Tch.below ba ((Tch.set (· = w.heap.size) _ ⟨w.heap.size, 0, none⟩ _ rfl).trans (Tch.set (· = w.heap.size) _ ⟨w.heap.size, 1, none⟩ _ rfl)) (fun j hj => by rw [hj]; exact Nat.le_refl _) ba.size)
    generalize hW : w.alloc (.cells plZ 69) = W at *
    clear h hL ba r0 hW
    go_enter Try.func29, Try.ntmps29
    go_wp2
    go_end0
    exact ⟨rfl, HB.out⟩
  generalize hW : w.alloc (.cells plZ 69) = W at *
  clear h hW ba r0 c2 c3 e2 e3
  go_enter Try.func8, Try.ntmps8
  go_wp2_with (first
    | (go_at_call 28; refine hL.mono ?_; rintro e1 w1 ⟨rfl, rfl⟩; clear hL)
    | (go_at_call 29; refine hF.mono ?_; rintro e2 w2 ⟨rfl, D2⟩; clear hF))
  go_end0
  exact ⟨rfl, D2⟩
theorem Cut_no {v : Value} (h : DiZ w v) (k : Int) : Calls Try.prog 9 #[v, .int .i64 k] w fun e w' => e = .returned (.tuple #[]) ∧ Below w.heap.size w w' := by
  have hL := looked_no h
  have ba := (Below.refl w.heap.size w).alloc (Nat.le_refl _) (.cells plZ 69)
  have r0 := heap_alloc_new w (.cells plZ 69)
  have c1 : (w.alloc (.cells plZ 69)).cell? ⟨w.heap.size, 3, none⟩ = some (.int .i64 0) := held_cell r0 rfl
  have e1 := held_frozen (i := 3) r0
  have HB : Hid (Below w.heap.size w ((w.alloc (.cells plZ 69)).setCell ⟨w.heap.size, 3, none⟩ (.int .i64 (max k (-1))))) := hid (Tch.below ba (Tch.set (· = w.heap.size) _ ⟨w.heap.size, 3, none⟩ _ rfl) (fun j hj => by rw [hj]; exact Nat.le_refl _) ba.size)
  generalize hW : w.alloc (.cells plZ 69) = W at *
  clear h hW ba r0
  go_enter Try.func9, Try.ntmps9
  go_wp2_with (go_at_call 28; refine hL.mono ?_; rintro e1 w1 ⟨rfl, rfl⟩; clear hL)
  go_end0
  exact ⟨rfl, HB.out⟩
theorem Crash_no {v : Value} (h : DiZ w v) (A : Option Addr) (L C : Nat) : Calls Try.prog 10 #[v, .slice A L C] w fun e w' => e = .returned (.tuple #[]) ∧ w' = w := by
  have hM := made_no h
  clear h
  go_enter Try.func10, Try.ntmps10
  go_wp2_with (go_at_call 30; refine hM.mono ?_; rintro e1 w1 ⟨rfl, rfl⟩; clear hM)
  refine bodyPost_ret (results_none rfl _ _ _) rfl ?_
  exact ⟨rfl, rfl⟩
end Go.Proofs.Ytjpneohachkheaa
