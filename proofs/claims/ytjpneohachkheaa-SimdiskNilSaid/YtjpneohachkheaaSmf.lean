/-
  SimdiskNil's walk: no disk, and one that nobody made. No condition.
-/
import Derived.Test.YtjpneohachkheaaSme
namespace Go.Proofs.Ytjpneohachkheaa
open Go.RowKit Go.Icz Go.Maps Go.ChangeMaps Go.MapKept
set_option maxRecDepth 100000
set_option maxHeartbeats 4000000
theorem nil_walk (kd : Int) (nm to : ByteArray) (Ab : Option Addr) (Lb Cb : Nat) (n : Int) (y : Bool) (Ak : Option Addr) (Lk Ck : Nat) (W : World) :
    Calls Try.prog 3 #[.agg #[.int .i64 kd, .string nm, .string to, .slice Ab Lb Cb, .int .i64 n, .bool y, .slice Ak Lk Ck]] W fun e W' => e = .returned (.bool true) ∧ Below W.heap.size W W' := by
  obtain ⟨B, hB⟩ : ∃ B, B = W.alloc (.cells #[.int .i64 kd, .string nm, .string to, .slice Ab Lb Cb, .int .i64 n, .bool y, .slice Ak Lk Ck] 25) := ⟨_, rfl⟩
  have b0 : Below W.heap.size W B := by rw [hB]; exact (Below.refl _ W).alloc (Nat.le_refl _) _
  have hBz : B.heap.size = W.heap.size + 1 := by rw [hB, World.size_alloc]
  have rB : B.heap[W.heap.size]? = some (.cells #[.int .i64 kd, .string nm, .string to, .slice Ab Lb Cb, .int .i64 n, .bool y, .slice Ak Lk Ck] 25 (0, 0)) := by rw [hB]; exact heap_alloc_new W _
  have ROW := hid (fun (wr : World) (b : Below B.heap.size B wr) => (show wr.heap[W.heap.size]? = some (.cells #[.int .i64 kd, .string nm, .string to, .slice Ab Lb Cb, .int .i64 n, .bool y, .slice Ak Lk Ck] 25 (0, 0)) from (b.block _ (by omega)).trans rB))
  have HB := hid hB
  have HZ := hid hBz
  have b1 := hid (Below.refl B.heap.size B)
  have hK := fun w => knows_is w
  clear rB hB hBz
  go_enter Try.func3, Try.ntmps3
  go_wp2
  rw [← HB.out]
  go_loopw [3, 4] (fun dv iv wr => ∃ (i : Nat) (v : Value), dv = v ∧ iv = .int .i64 i ∧ i ≤ 2 ∧ Hid (DiZ wr v) ∧ Hid (Below B.heap.size B wr)) (fun _ iv _ => 2 - (intOf iv).toNat)
  case atStart => exact ⟨0, _, rfl, rfl, by omega, hid (.inl rfl), b1⟩
  case round =>
    obtain ⟨i, v, hv, rfl, hi, hD, hb⟩ := hrel
    obtain rfl := hv.symm
    by_cases hLt : i < 2
    · have hil : (i : Int) < 2 := by omega
      have HL := hid hLt
      have X : ∀ w2, Below wr.heap.size wr w2 → Hid (DiZ w2 v) ∧ w2.cell? ⟨W.heap.size, 1, none⟩ = some (.string nm) ∧ w2.cell? ⟨W.heap.size, 2, none⟩ = some (.string to) ∧ w2.cell? ⟨W.heap.size, 3, none⟩ = some (.slice Ab Lb Cb) ∧ w2.cell? ⟨W.heap.size, 4, none⟩ = some (.int .i64 n) ∧ w2.cell? ⟨W.heap.size, 5, none⟩ = some (.bool y) ∧ w2.cell? ⟨W.heap.size, 6, none⟩ = some (.slice Ak Lk Ck) := fun w2 b2 => by
        have r := ROW.out w2 (hb.out.trans (b2.mono hb.out.size))
        exact ⟨hid (hD.out.below b2), held_cell r rfl, held_cell r rfl, held_cell r rfl, held_cell r rfl, held_cell r rfl, held_cell r rfl⟩
      have bb := Below.refl wr.heap.size wr
      obtain ⟨hz, q1, q2, q3, q4, q5, q6⟩ := X wr bb
      have hLB : ∀ w2, Below wr.heap.size wr w2 → Hid (DiZ (w2.alloc (.cells #[.pointer none] 44)) (.pointer (some ⟨w2.heap.size, 0, none⟩)) ∧ Below B.heap.size B (w2.alloc (.cells #[.pointer none] 44))) := fun w2 b2 => hid ⟨.inr ⟨_, rfl, heap_alloc_new w2 _⟩, (hb.out.trans (b2.mono hb.out.size)).alloc (Nat.le_trans hb.out.size b2.size) _⟩
      go_wp2_with (first
        | (go_at_call 8; refine (Fail_no hz.out _ _).mono ?_; rintro e2 w2 ⟨rfl, b2⟩; have bb := bb.trans (b2.mono bb.size); clear q1 q2 q3 q4 q5 q6 hz; obtain ⟨hz, q1, q2, q3, q4, q5, q6⟩ := X _ bb)
        | (go_at_call 9; refine (Cut_no hz.out _).mono ?_; rintro e2 w2 ⟨rfl, b2⟩; have bb := bb.trans (b2.mono bb.size); clear q1 q2 q3 q4 q5 q6 hz; obtain ⟨hz, q1, q2, q3, q4, q5, q6⟩ := X _ bb)
        | (go_at_call 10; refine (Crash_no hz.out _ _ _).mono ?_; rintro e2 w2 ⟨rfl, hw2⟩; have hw2 := hw2.symm; subst hw2)
        | (go_at_call 11; refine (Read_no hz.out _).mono ?_; rintro e2 w2 ⟨rfl, hw2⟩; have hw2 := hw2.symm; subst hw2)
        | (go_at_call 13; refine (Create_no hz.out _).mono ?_; rintro e2 w2 ⟨rfl, b2⟩; have bb := bb.trans (b2.mono bb.size); clear q1 q2 q3 q4 q5 q6 hz; obtain ⟨hz, q1, q2, q3, q4, q5, q6⟩ := X _ bb)
        | (go_at_call 14; refine (Append_no hz.out _ _ _ _).mono ?_; rintro e2 w2 ⟨rfl, hw2⟩; have hw2 := hw2.symm; subst hw2)
        | (go_at_call 15; refine (Rename_no hz.out _ _).mono ?_; rintro e2 w2 ⟨rfl, hw2⟩; have hw2 := hw2.symm; subst hw2)
        | (go_at_call 16; refine (Remove_no hz.out _).mono ?_; rintro e2 w2 ⟨rfl, hw2⟩; have hw2 := hw2.symm; subst hw2)
        | (go_at_call 17; refine (Sync_no hz.out _).mono ?_; rintro e2 w2 ⟨rfl, hw2⟩; have hw2 := hw2.symm; subst hw2)
        | (go_at_call 18; refine (SyncDir_no hz.out).mono ?_; rintro e2 w2 ⟨rfl, hw2⟩; have hw2 := hw2.symm; subst hw2)
        | (go_at_call 12; refine (num_is _ _).mono ?_; rintro e0 w2 ⟨rfl, hw2⟩; have hw2 := hw2.symm; subst hw2)
        | (go_at_call 19; refine (List_no hz.out).mono ?_; rintro e2 w2 ⟨rfl, b2⟩; have bb := bb.trans (b2.mono bb.size); clear q1 q2 q3 q4 q5 q6 hz; obtain ⟨hz, q1, q2, q3, q4, q5, q6⟩ := X _ bb)
        | (go_at_call 20; refine (Used_no hz.out).mono ?_; rintro e2 w2 ⟨rfl, b2⟩; have bb := bb.trans (b2.mono bb.size); clear q1 q2 q3 q4 q5 q6 hz; obtain ⟨hz, q1, q2, q3, q4, q5, q6⟩ := X _ bb)
        | (go_at_call 21; refine (Free_no hz.out).mono ?_; rintro e2 w2 ⟨rfl, b2⟩; have bb := bb.trans (b2.mono bb.size); clear q1 q2 q3 q4 q5 q6 hz; obtain ⟨hz, q1, q2, q3, q4, q5, q6⟩ := X _ bb)
        | (go_at_call 22; refine (Down_no hz.out).mono ?_; rintro e2 w2 ⟨rfl, b2⟩; have bb := bb.trans (b2.mono bb.size); clear q1 q2 q3 q4 q5 q6 hz; obtain ⟨hz, q1, q2, q3, q4, q5, q6⟩ := X _ bb))
      go_roundw
      case rel => exact ⟨i + 1, _, rfl, by go_num, HL.out, hid (hLB _ bb).out.1, hid (hLB _ bb).out.2⟩
      case measure => have := HL.out; simp [intOf]; omega
    · have hil : ¬ (i : Int) < 2 := by omega
      have hKn := hK wr
      go_wp2_with (go_at_call 23; refine hKn.mono ?_; rintro e2 w2 ⟨rfl, b2⟩; clear hKn)
      go_ret
      exact ⟨rfl, b0.trans ((hb.out.trans (b2.mono hb.out.size)).mono b0.size)⟩
end Go.Proofs.Ytjpneohachkheaa
