/-
  What must come: knows. No condition.
-/
import Derived.Test.YtddbmibpnahmnaaNpk
namespace Go.Icz
def m1 : MV := ⟨1, 1, 5, 1, 1, 1, 9, 0⟩
def m2 : MV := ⟨2, 1, 5, 2, 2, 1, 9, 0⟩
def m3 : MV := ⟨3, 1, 5, 3, 3, 1, 9, 0⟩
def ls3 : List MV := [m3, m2, m1]
theorem ls3_fine : fineM ls3 = true := by decide
theorem ls3_over : idsM (thoseM ls3 (overM 10 15)) = [3, 2, 1] := by decide
theorem ls3_none : idsM (thoseM ls3 (overM 10 14)) = [] := by decide
theorem ls3_pack : PackOf ls3 2 99 10 0 [m1, m2] := by
  refine .inr ⟨by decide, by decide, [m1, m2, m3], ?_, ?_, .inl ⟨0, 0, by decide, by decide, by decide, ?_, by decide⟩⟩
  · decide
  · unfold SrtM; decide
  · rintro lv' i' (h | ⟨_, h⟩) <;> omega
end Go.Icz
namespace Go.Proofs.Ytddbmibpnahmnaa
open Go.RowKit Go.Icz
theorem wf_ls3 : ∀ x ∈ ls3, wfI x.id := by
  intro x hx
  simp only [ls3, List.mem_cons, List.not_mem_nil, or_false] at hx
  rcases hx with rfl | rfl | rfl <;> exact wfI_small (by decide) (by decide)
theorem ls3_O1 {W : World} {v : Value} (r : KMet.Rd W v ls3) {cur : World} (hc : Below W.heap.size W cur) : Calls Try.prog 32 #[v, .int .i64 10, .int .i64 15] cur fun e w' => ∃ A c, e = .returned (.slice A 3 c) ∧ KInt.Rd w' (.slice A 3 c) [3, 2, 1] ∧ Below W.heap.size W w' := by
  have h := Over_is v ls3 10 15 cur (r.below hc) (by decide) wf_ls3 (by decide)
  rw [ls3_over] at h
  refine h.mono ?_
  rintro e w' ⟨u, rfl, o, b⟩
  obtain ⟨A, c, rfl, _⟩ := o.rd.form
  exact ⟨A, c, rfl, o.rd, hc.trans (b.mono hc.size)⟩
theorem ls3_O2 {W : World} {v : Value} (r : KMet.Rd W v ls3) {cur : World} (hc : Below W.heap.size W cur) : Calls Try.prog 32 #[v, .int .i64 10, .int .i64 14] cur fun e w' => ∃ A c, e = .returned (.slice A 0 c) ∧ Below W.heap.size W w' := by
  have h := Over_is v ls3 10 14 cur (r.below hc) (by decide) wf_ls3 (by decide)
  rw [ls3_none] at h
  refine h.mono ?_
  rintro e w' ⟨u, rfl, o, b⟩
  obtain ⟨A, c, rfl, _⟩ := o.rd.form
  exact ⟨A, c, rfl, hc.trans (b.mono hc.size)⟩
theorem ls3_P {W : World} {v : Value} (r : KMet.Rd W v ls3) {cur : World} (hc : Below W.heap.size W cur) : Calls Try.prog 33 #[v, .agg #[.int .i64 2, .int .i64 99, .int .i64 10], .int .i64 0] cur fun e w' => ∃ A c, e = .returned (.slice A 2 c) ∧ KInt.Rd w' (.slice A 2 c) [1, 2] ∧ Below W.heap.size W w' := by
  have h := Pack_is v ls3 2 99 10 0 cur (r.below hc) (by decide) wf_ls3 (by decide)
  refine Calls.mono h ?_
  rintro e w' ⟨a, ha, u, rfl, o, b⟩
  obtain rfl := ha.one ls3_pack
  obtain ⟨A, c, rfl, _⟩ := o.rd.form
  exact ⟨A, c, rfl, o.rd, hc.trans (b.mono hc.size)⟩
theorem ls3_F {W : World} {v : Value} (r : KMet.Rd W v ls3) {cur : World} (hc : Below W.heap.size W cur) : Calls Try.prog 8 #[v] cur fun e w' => e = .returned (.bool true) ∧ Below W.heap.size W w' := by
  have h := Fine_is v ls3 cur (r.below hc) (by decide) wf_ls3
  rw [ls3_fine] at h
  refine h.mono ?_
  rintro e w' ⟨rfl, b⟩
  exact ⟨rfl, hc.trans (b.mono hc.size)⟩
theorem ints_same {W : World} {v : Value} {a : List Int} {w2 : World} (r : KInt.Rd w2 v a) (hc : Below W.heap.size W w2) {n : Nat} (hn : n = a.length) (ha : a.length ≤ 1099511627776) (cs : Array Value) (hcs : cs = (KInt.cells a).toArray) :
    Calls Try.prog 31 #[v, .slice (some ⟨w2.heap.size, 0, none⟩) n n] (w2.alloc (.cells cs 3)) fun e w' => e = .returned (.bool true) ∧ Below W.heap.size W w' := by
  subst hn hcs
  have hl := (Kd.Own.lit (K := KInt) (B := 0) w2 a (by unfold maxLen; omega) (Nat.zero_le _)).rd
  have h := Ints_is v _ a a _ (r.alloc _) hl ha ha
  rw [decide_eq_true rfl] at h
  refine Calls.mono h ?_
  rintro e w' ⟨rfl, b⟩
  exact ⟨rfl, (hc.alloc hc.size _).trans (b.mono (by simp; have := hc.size; omega))⟩
set_option maxRecDepth 100000 in
set_option maxHeartbeats 4000000 in
theorem knows_is (w : World) : Calls Try.prog 17 #[] w fun e w' => e = .returned (.bool true) ∧ Below w.heap.size w w' := by
  have h1 := fun i w1 (hw : Below w.heap.size w w1) => (one_is i w1).mono (fun e w' (h : e = .returned (metaV ⟨i, 1, 5, i, i, 1, 9, 0⟩) ∧ Below w1.heap.size w1 w') => (show e = .returned (metaV ⟨i, 1, 5, i, i, 1, 9, 0⟩) ∧ Below w.heap.size w w' from ⟨h.1, hw.trans (h.2.mono hw.size)⟩))
  unfold metaV at h1
  have hL : ∀ w1, Below w.heap.size w w1 → KMet.Rd (w1.alloc (.cells #[.int .i64 3, .int .i64 1, .int .i64 5, .int .i64 3, .int .i64 3, .int .i64 1, .int .i64 9, .int .i64 0, .int .i64 2, .int .i64 1, .int .i64 5, .int .i64 2, .int .i64 2, .int .i64 1, .int .i64 9, .int .i64 0, .int .i64 1, .int .i64 1, .int .i64 5, .int .i64 1, .int .i64 1, .int .i64 1, .int .i64 9, .int .i64 0] 28)) (.slice (some ⟨w1.heap.size, 0, none⟩) 3 3) ls3 ∧ Below w.heap.size w (w1.alloc (.cells #[.int .i64 3, .int .i64 1, .int .i64 5, .int .i64 3, .int .i64 3, .int .i64 1, .int .i64 9, .int .i64 0, .int .i64 2, .int .i64 1, .int .i64 5, .int .i64 2, .int .i64 2, .int .i64 1, .int .i64 9, .int .i64 0, .int .i64 1, .int .i64 1, .int .i64 5, .int .i64 1, .int .i64 1, .int .i64 1, .int .i64 9, .int .i64 0] 28)) := fun w1 hw =>
    ⟨(Kd.Own.lit (K := KMet) (B := 0) w1 ls3 (by decide) (Nat.zero_le _)).rd, hw.alloc hw.size _⟩
  have hb := Below.refl w.heap.size w
  have t0 := True.intro
  have t1 := True.intro
  go_enter Try.func17, Try.ntmps17
  go_wp2_with (first
    | (go_at_call 30; refine (h1 _ _ hb).mono ?_; rintro e w1 ⟨rfl, hb⟩)
    | (clear t0; go_at_call 32; obtain ⟨r, hb⟩ := hL _ hb; have hc := Below.refl (w1.alloc (.cells #[.int .i64 3, .int .i64 1, .int .i64 5, .int .i64 3, .int .i64 3, .int .i64 1, .int .i64 9, .int .i64 0, .int .i64 2, .int .i64 1, .int .i64 5, .int .i64 2, .int .i64 2, .int .i64 1, .int .i64 9, .int .i64 0, .int .i64 1, .int .i64 1, .int .i64 5, .int .i64 1, .int .i64 1, .int .i64 1, .int .i64 9, .int .i64 0] 28)).heap.size (w1.alloc (.cells #[.int .i64 3, .int .i64 1, .int .i64 5, .int .i64 3, .int .i64 3, .int .i64 1, .int .i64 9, .int .i64 0, .int .i64 2, .int .i64 1, .int .i64 5, .int .i64 2, .int .i64 2, .int .i64 1, .int .i64 9, .int .i64 0, .int .i64 1, .int .i64 1, .int .i64 5, .int .i64 1, .int .i64 1, .int .i64 1, .int .i64 9, .int .i64 0] 28)); refine (ls3_O1 r hc).mono ?_; rintro e w2 ⟨A2, c2, rfl, r2, hc⟩; have hI := ints_same r2 hc rfl (by decide) #[.int .i64 3, .int .i64 2, .int .i64 1] rfl)
    | (clear t1; go_at_call 31; refine hI.mono ?_; rintro e w3 ⟨rfl, hc⟩)
    | (go_at_call 32; refine (ls3_O2 r hc).mono ?_; rintro e w4 ⟨A4, c4, rfl, hc⟩)
    | (go_at_call 33; refine (ls3_P r hc).mono ?_; rintro e w5 ⟨A5, c5, rfl, r5, hc⟩; have hI5 := ints_same r5 hc rfl (by decide) #[.int .i64 1, .int .i64 2] rfl)
    | (go_at_call 31; refine hI5.mono ?_; rintro e w6 ⟨rfl, hc⟩)
    | (go_at_call 8; refine (ls3_F r hc).mono ?_; rintro e w7 ⟨rfl, hc⟩))
  go_ret
  exact ⟨rfl, hb.trans (hc.mono hb.size)⟩
end Go.Proofs.Ytddbmibpnahmnaa
