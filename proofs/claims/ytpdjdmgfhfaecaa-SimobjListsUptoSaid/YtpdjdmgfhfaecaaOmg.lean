/-
  No store, and one that nobody made: what its calls answer; SimobjNil's walk. No condition.
-/
import Derived.Test.YtpdjdmgfhfaecaaOmf
namespace Go.Proofs.Ytpdjdmgfhfaecaa
open Go.RowKit Go.Icz Go.Maps Go.ChangeMaps Go.MapKept
set_option maxRecDepth 100000
set_option maxHeartbeats 4000000
variable {w : World}
theorem Get_no {v : Value} (h : StZ w v) (k : ByteArray) : Calls Try.prog 13 #[v, .string k] w fun e w' => e = .returned (.tuple #[.slice none 0 0, .int .i64 1]) ∧ w' = w := by
  have hM := made_no h
  clear h
  go_enter Try.func13, Try.ntmps13
  go_wp2_with (go_at_call 37; refine hM.mono ?_; rintro e1 w1 ⟨rfl, rfl⟩; clear hM)
  go_ret2
  exact ⟨rfl, rfl⟩
theorem List_no {v : Value} (h : StZ w v) (k : ByteArray) : Calls Try.prog 14 #[v, .string k] w fun e w' => e = .returned (.tuple #[.slice none 0 0, .int .i64 1]) ∧ w' = w := by
  have hM := made_no h
  clear h
  go_enter Try.func14, Try.ntmps14
  go_wp2_with (go_at_call 37; refine hM.mono ?_; rintro e1 w1 ⟨rfl, rfl⟩; clear hM)
  go_ret2
  exact ⟨rfl, rfl⟩
theorem Put_no {v : Value} (h : StZ w v) (k : ByteArray) (A : Option Addr) (n c : Nat) : Calls Try.prog 16 #[v, .string k, .slice A n c] w fun e w' => e = .returned (.int .i64 1) ∧ w' = w := by
  have hM := made_no h
  clear h
  go_enter Try.func16, Try.ntmps16
  go_wp2_with (go_at_call 37; refine hM.mono ?_; rintro e1 w1 ⟨rfl, rfl⟩; clear hM)
  go_ret
  exact ⟨rfl, rfl⟩
theorem Delete_no {v : Value} (h : StZ w v) (k : ByteArray) : Calls Try.prog 17 #[v, .string k] w fun e w' => e = .returned (.int .i64 1) ∧ w' = w := by
  have hM := made_no h
  clear h
  go_enter Try.func17, Try.ntmps17
  go_wp2_with (go_at_call 37; refine hM.mono ?_; rintro e1 w1 ⟨rfl, rfl⟩; clear hM)
  go_ret
  exact ⟨rfl, rfl⟩
theorem Tick_no {v : Value} (h : StZ w v) (n : Int) : Calls Try.prog 18 #[v, .int .i64 n] w fun e w' => e = .returned (.int .i64 1) ∧ w' = w := by
  have hM := made_no h
  clear h
  go_enter Try.func18, Try.ntmps18
  go_wp2_with (go_at_call 37; refine hM.mono ?_; rintro e1 w1 ⟨rfl, rfl⟩; clear hM)
  go_ret
  exact ⟨rfl, rfl⟩
theorem Lag_no {v : Value} (h : StZ w v) (n : Int) : Calls Try.prog 19 #[v, .int .i64 n] w fun e w' => e = .returned (.int .i64 1) ∧ w' = w := by
  have hM := made_no h
  clear h
  go_enter Try.func19, Try.ntmps19
  go_wp2_with (go_at_call 37; refine hM.mono ?_; rintro e1 w1 ⟨rfl, rfl⟩; clear hM)
  go_ret
  exact ⟨rfl, rfl⟩
theorem Now_no {v : Value} (h : StZ w v) : Calls Try.prog 21 #[v] w fun e w' => e = .returned (.int .i64 0) ∧ Below w.heap.size w w' := by
  have hL := looked_no h
  have ba := (Below.refl w.heap.size w).alloc (Nat.le_refl _) (.cells roZ 65)
  have c0 : (w.alloc (.cells roZ 65)).cell? ⟨w.heap.size, 2, none⟩ = some (.int .i64 0) := held_cell (heap_alloc_new w _) rfl
  generalize hW : w.alloc (.cells roZ 65) = W at *
  clear h hW
  go_enter Try.func21, Try.ntmps21
  go_wp2_with (go_at_call 35; refine hL.mono ?_; rintro e1 w1 ⟨rfl, rfl⟩; clear hL)
  go_ret
  exact ⟨rfl, ba⟩
theorem Calls_no {v : Value} (h : StZ w v) : Calls Try.prog 22 #[v] w fun e w' => e = .returned (.int .i64 0) ∧ Below w.heap.size w w' := by
  have hL := looked_no h
  have ba := (Below.refl w.heap.size w).alloc (Nat.le_refl _) (.cells roZ 65)
  have c0 : (w.alloc (.cells roZ 65)).cell? ⟨w.heap.size, 5, none⟩ = some (.int .i64 0) := held_cell (heap_alloc_new w _) rfl
  generalize hW : w.alloc (.cells roZ 65) = W at *
  clear h hW
  go_enter Try.func22, Try.ntmps22
  go_wp2_with (go_at_call 35; refine hL.mono ?_; rintro e1 w1 ⟨rfl, rfl⟩; clear hL)
  go_ret
  exact ⟨rfl, ba⟩
theorem Keys_no {v : Value} (h : StZ w v) : Calls Try.prog 20 #[v] w fun e w' => e = .returned (.slice none 0 0) ∧ Below w.heap.size w w' := by
  have hL := looked_no h
  have ba := (Below.refl w.heap.size w).alloc (Nat.le_refl _) (.cells roZ 65)
  have c0 : (w.alloc (.cells roZ 65)).cell? ⟨w.heap.size, 0, none⟩ = some (.map none) := held_cell (heap_alloc_new w _) rfl
  generalize hW : w.alloc (.cells roZ 65) = W at *
  have cK : Calls Try.prog 49 #[.map none] W fun e w' => e = .returned (.func (.func 69) #[] #[.pointer (some ⟨W.heap.size, 0, none⟩)]) ∧ w' = W.alloc (.cells #[.map none] 60) := callsIn_wide.1 (keysO_is none W)
  have cS := callsIn_wide.1 (Go.Proofs.Try.sortO_nil W)
  clear h hW
  go_enter Try.func20, Try.ntmps20
  go_wp2_with (first
    | (go_at_call 35; refine hL.mono ?_; rintro e1 w1 ⟨rfl, rfl⟩; clear hL)
    | (go_at_call 49; refine cK.mono ?_; rintro e2 w2 ⟨rfl, rfl⟩; clear cK)
    | (go_at_call 48; refine cS.mono ?_; rintro e3 w3 ⟨rfl, b3⟩; clear cS))
  go_ret
  exact ⟨rfl, ba.trans (b3.mono ba.size)⟩
theorem Look_no {v : Value} (h : StZ w v) (k : ByteArray) (hk : k.size ≤ maxLen) : Calls Try.prog 15 #[v, .string k] w fun e w' => e = .returned (.tuple #[.slice none 0 0, .bool false]) ∧ Below w.heap.size w w' := by
  have hL := looked_no h
  have ba := (Below.refl w.heap.size w).alloc (Nat.le_refl _) (.cells roZ 65)
  have c0 : (w.alloc (.cells roZ 65)).cell? ⟨w.heap.size, 0, none⟩ = some (.map none) := held_cell (heap_alloc_new w _) rfl
  generalize hW : w.alloc (.cells roZ 65) = W at *
  have hlk : (Instr.lookup 60 (.map none) (.string k) true).run Try.prog W = .ok (.tuple #[.slice none 0 0, .bool false]) W := Maps.look_nil true (string_keyed Try.underlying9) Try.underlying60 (Try.zeroValue32 W) (keyS hk)
  have hC : Calls Try.prog 42 #[.slice none 0 0] W fun e w' => e = .returned (.slice none 0 0) ∧ w' = W := by
    have hn := Lib.run_eql_slice_nil (P := Try.prog)
    clear hL hlk
    go_enter Try.func42, Try.ntmps42
    go_wp2
    go_ret
    exact ⟨rfl, rfl⟩
  clear h hW
  go_enter Try.func15, Try.ntmps15
  go_wp2_with (first
    | (go_at_call 35; refine hL.mono ?_; rintro e1 w1 ⟨rfl, rfl⟩; clear hL)
    | (go_at_call 42; refine hC.mono ?_; rintro e2 w2 ⟨rfl, rfl⟩; clear hC))
  go_ret2
  exact ⟨rfl, ba⟩
theorem Fail_no {v : Value} (h : StZ w v) (k : Int) (d : Bool) : Calls Try.prog 12 #[v, .int .i64 k, .bool d] w fun e w' => e = .returned (.tuple #[]) ∧ Below w.heap.size w w' := by
  have hL := looked_no h
  have ba := (Below.refl w.heap.size w).alloc (Nat.le_refl _) (.cells roZ 65)
  have r0 := heap_alloc_new w (.cells roZ 65)
  have c6 : (w.alloc (.cells roZ 65)).cell? ⟨w.heap.size, 6, none⟩ = some (.int .i64 0) := held_cell r0 rfl
  have c7 : (w.alloc (.cells roZ 65)).cell? ⟨w.heap.size, 7, none⟩ = some (.bool false) := held_cell r0 rfl
  have c7' : (w.alloc (.cells roZ 65)).cell? ⟨w.heap.size, 6 + 1, none⟩ = some (.bool false) := held_cell r0 rfl
  have e6 := held_frozen (i := 6) r0
  have e7 := held_frozen (i := 7) r0
  have e7' : (w.alloc (.cells roZ 65)).frozen? ⟨w.heap.size, 6 + 1, none⟩ = false := held_frozen (i := 7) r0
  have hF : Calls Try.prog 36 #[.pointer (some ⟨w.heap.size, 6, none⟩), .int .i64 k, .bool d] (w.alloc (.cells roZ 65)) fun e w' => e = .returned (.tuple #[]) ∧ Below w.heap.size w w' := by
    have HB : Hid (Below w.heap.size w ((((w.alloc (.cells roZ 65)).setCell ⟨w.heap.size, 6, none⟩ (.int .i64 (max k 0))).setCell ⟨w.heap.size, 7, none⟩ (.bool d)))) := hid (Tch.below ba ((Tch.set (· = w.heap.size) _ ⟨w.heap.size, 6, none⟩ _ rfl).trans (Tch.set (· = w.heap.size) _ ⟨w.heap.size, 7, none⟩ _ rfl)) (fun j hj => by rw [hj]; exact Nat.le_refl _) ba.size)
    generalize hW : w.alloc (.cells roZ 65) = W at *
    clear h hL ba r0 hW
    go_enter Try.func36, Try.ntmps36
    go_wp2
    go_end0
    exact ⟨rfl, HB.out⟩
  generalize hW : w.alloc (.cells roZ 65) = W at *
  clear h hW ba r0 c6 c7 c7' e6 e7 e7'
  go_enter Try.func12, Try.ntmps12
  go_wp2_with (first
    | (go_at_call 35; refine hL.mono ?_; rintro e1 w1 ⟨rfl, rfl⟩; clear hL)
    | (go_at_call 36; refine hF.mono ?_; rintro e2 w2 ⟨rfl, D2⟩; clear hF))
  go_end0
  exact ⟨rfl, D2⟩
theorem nil_walk (kd : Int) (nm : ByteArray) (hnm : nm.size ≤ maxLen) (Ab : Option Addr) (Lb Cb : Nat) (n : Int) (y : Bool) (W : World) :
    Calls Try.prog 4 #[.agg #[.int .i64 kd, .string nm, .slice Ab Lb Cb, .int .i64 n, .bool y]] W fun e W' => e = .returned (.bool true) ∧ Below W.heap.size W W' := by
  obtain ⟨B, hB⟩ : ∃ B, B = W.alloc (.cells #[.int .i64 kd, .string nm, .slice Ab Lb Cb, .int .i64 n, .bool y] 34) := ⟨_, rfl⟩
  have b0 : Below W.heap.size W B := by rw [hB]; exact (Below.refl _ W).alloc (Nat.le_refl _) _
  have hBz : B.heap.size = W.heap.size + 1 := by rw [hB, World.size_alloc]
  have rB : B.heap[W.heap.size]? = some (.cells #[.int .i64 kd, .string nm, .slice Ab Lb Cb, .int .i64 n, .bool y] 34 (0, 0)) := by rw [hB]; exact heap_alloc_new W _
  have ROW := hid (fun (wr : World) (b : Below B.heap.size B wr) => (show wr.heap[W.heap.size]? = some (.cells #[.int .i64 kd, .string nm, .slice Ab Lb Cb, .int .i64 n, .bool y] 34 (0, 0)) from (b.block _ (by omega)).trans rB))
  have HB := hid hB
  have HZ := hid hBz
  have b1 := hid (Below.refl B.heap.size B)
  have hK := fun w => knows_is w
  clear rB hB hBz
  go_enter Try.func4, Try.ntmps4
  go_wp2
  rw [← HB.out]
  go_loopw [3, 4] (fun dv iv wr => ∃ (i : Nat) (v : Value), dv = v ∧ iv = .int .i64 i ∧ i ≤ 2 ∧ Hid (StZ wr v) ∧ Hid (Below B.heap.size B wr)) (fun _ iv _ => 2 - (intOf iv).toNat)
  case atStart => exact ⟨0, _, rfl, rfl, by omega, hid (.inl rfl), b1⟩
  case round =>
    obtain ⟨i, v, hv, rfl, hi, hD, hb⟩ := hrel
    obtain rfl := hv.symm
    by_cases hLt : i < 2
    · have hil : (i : Int) < 2 := by omega
      have HL := hid hLt
      have X : ∀ w2, Below wr.heap.size wr w2 → Hid (StZ w2 v) ∧ w2.cell? ⟨W.heap.size, 1, none⟩ = some (.string nm) ∧ w2.cell? ⟨W.heap.size, 2, none⟩ = some (.slice Ab Lb Cb) ∧ w2.cell? ⟨W.heap.size, 3, none⟩ = some (.int .i64 n) ∧ w2.cell? ⟨W.heap.size, 4, none⟩ = some (.bool y) := fun w2 b2 => by
        have r := ROW.out w2 (hb.out.trans (b2.mono hb.out.size))
        exact ⟨hid (hD.out.below b2), held_cell r rfl, held_cell r rfl, held_cell r rfl, held_cell r rfl⟩
      have bb := Below.refl wr.heap.size wr
      obtain ⟨hz, q1, q2, q3, q4⟩ := X wr bb
      have hLB : ∀ w2, Below wr.heap.size wr w2 → Hid (StZ (w2.alloc (.cells #[.pointer none] 51)) (.pointer (some ⟨w2.heap.size, 0, none⟩)) ∧ Below B.heap.size B (w2.alloc (.cells #[.pointer none] 51))) := fun w2 b2 => hid ⟨.inr ⟨_, rfl, heap_alloc_new w2 _⟩, (hb.out.trans (b2.mono hb.out.size)).alloc (Nat.le_trans hb.out.size b2.size) _⟩
      go_wp2_with (first
        | (go_at_call 12; refine (Fail_no hz.out _ _).mono ?_; rintro e2 w2 ⟨rfl, b2⟩; have bb := bb.trans (b2.mono bb.size); clear q1 q2 q3 q4 hz; obtain ⟨hz, q1, q2, q3, q4⟩ := X _ bb)
        | (go_at_call 13; refine (Get_no hz.out _).mono ?_; rintro e2 w2 ⟨rfl, hw2⟩; have hw2 := hw2.symm; subst hw2)
        | (go_at_call 14; refine (List_no hz.out _).mono ?_; rintro e2 w2 ⟨rfl, hw2⟩; have hw2 := hw2.symm; subst hw2)
        | (go_at_call 15; refine (Look_no hz.out _ hnm).mono ?_; rintro e2 w2 ⟨rfl, b2⟩; have bb := bb.trans (b2.mono bb.size); clear q1 q2 q3 q4 hz; obtain ⟨hz, q1, q2, q3, q4⟩ := X _ bb)
        | (go_at_call 16; refine (Put_no hz.out _ _ _ _).mono ?_; rintro e2 w2 ⟨rfl, hw2⟩; have hw2 := hw2.symm; subst hw2)
        | (go_at_call 17; refine (Delete_no hz.out _).mono ?_; rintro e2 w2 ⟨rfl, hw2⟩; have hw2 := hw2.symm; subst hw2)
        | (go_at_call 18; refine (Tick_no hz.out _).mono ?_; rintro e2 w2 ⟨rfl, hw2⟩; have hw2 := hw2.symm; subst hw2)
        | (go_at_call 19; refine (Lag_no hz.out _).mono ?_; rintro e2 w2 ⟨rfl, hw2⟩; have hw2 := hw2.symm; subst hw2)
        | (go_at_call 9; refine (num_is _ _).mono ?_; rintro e0 w2 ⟨rfl, hw2⟩; have hw2 := hw2.symm; subst hw2)
        | (go_at_call 20; refine (Keys_no hz.out).mono ?_; rintro e2 w2 ⟨rfl, b2⟩; have bb := bb.trans (b2.mono bb.size); clear q1 q2 q3 q4 hz; obtain ⟨hz, q1, q2, q3, q4⟩ := X _ bb)
        | (go_at_call 21; refine (Now_no hz.out).mono ?_; rintro e2 w2 ⟨rfl, b2⟩; have bb := bb.trans (b2.mono bb.size); clear q1 q2 q3 q4 hz; obtain ⟨hz, q1, q2, q3, q4⟩ := X _ bb)
        | (go_at_call 22; refine (Calls_no hz.out).mono ?_; rintro e2 w2 ⟨rfl, b2⟩; have bb := bb.trans (b2.mono bb.size); clear q1 q2 q3 q4 hz; obtain ⟨hz, q1, q2, q3, q4⟩ := X _ bb))
      go_roundw
      case rel => exact ⟨i + 1, _, rfl, by go_num, HL.out, hid (hLB _ bb).out.1, hid (hLB _ bb).out.2⟩
      case measure => have := HL.out; simp [intOf]; omega
    · have hil : ¬ (i : Int) < 2 := by omega
      have hKn := hK wr
      go_wp2_with (go_at_call 10; refine hKn.mono ?_; rintro e2 w2 ⟨rfl, b2⟩; clear hKn)
      go_ret
      exact ⟨rfl, b0.trans ((hb.out.trans (b2.mono hb.out.size)).mono b0.size)⟩
end Go.Proofs.Ytpdjdmgfhfaecaa
