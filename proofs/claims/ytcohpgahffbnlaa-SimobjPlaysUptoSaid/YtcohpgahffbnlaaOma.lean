/-
  A call: it is counted, it may fail, what it does is done. Conditions: those that each theorem names.
-/
import Derived.Test.YtcohpgahffbnlaaOm9
namespace Go.Proofs.Ytcohpgahffbnlaa
open Go.RowKit Go.Icz Go.Maps Go.ChangeMaps Go.MapKept
set_option maxRecDepth 100000
set_option maxHeartbeats 4000000
variable {w : World} {T : Nat → Prop} {q p bO c : Nat} {cv : Value} {M : SM}
theorem noting_is (p : Nat) (k : ByteArray) (b : Bool) (w : World) : Calls Try.prog 37 #[.pointer (some ⟨p, 0, none⟩), .string k, .bool b] w fun e w' => e = .returned (.func (.func 54) #[] #[.pointer (some ⟨w.heap.size, 0, none⟩), .pointer (some ⟨w.heap.size + 1, 0, none⟩), .pointer (some ⟨w.heap.size + 1 + 1, 0, none⟩)]) ∧ w' = ((w.alloc (.cells #[.pointer (some ⟨p, 0, none⟩)] 36)).alloc (.cells #[.string k] 9)).alloc (.cells #[.bool b] 4) := by
  go_enter Try.func37, Try.ntmps37
  go_wp2
  go_ret
  exact ⟨rfl, rfl⟩
theorem holding_is (p : Nat) (k : ByteArray) (A : Option Addr) (n cp : Nat) (w : World) : Calls Try.prog 38 #[.pointer (some ⟨p, 0, none⟩), .string k, .slice A n cp] w fun e w' => e = .returned (.func (.func 56) #[] #[.pointer (some ⟨w.heap.size + 1 + 1, 0, none⟩), .pointer (some ⟨w.heap.size, 0, none⟩), .pointer (some ⟨w.heap.size + 1, 0, none⟩)]) ∧ w' = ((w.alloc (.cells #[.pointer (some ⟨p, 0, none⟩)] 36)).alloc (.cells #[.string k] 9)).alloc (.cells #[.slice A n cp] 32) := by
  go_enter Try.func38, Try.ntmps38
  go_wp2
  go_ret
  exact ⟨rfl, rfl⟩
theorem dropping_is (p : Nat) (k : ByteArray) (w : World) : Calls Try.prog 44 #[.pointer (some ⟨p, 0, none⟩), .string k] w fun e w' => e = .returned (.func (.func 63) #[] #[.pointer (some ⟨w.heap.size, 0, none⟩), .pointer (some ⟨w.heap.size + 1, 0, none⟩)]) ∧ w' = (w.alloc (.cells #[.pointer (some ⟨p, 0, none⟩)] 36)).alloc (.cells #[.string k] 9) := by
  go_enter Try.func44, Try.ntmps44
  go_wp2
  go_ret
  exact ⟨rfl, rfl⟩
/-- The count, and the failure asked. -/
theorem ask_facts {X : List Chg} (R : Ro w T q p bO cv X M) (hwf : WfS M c) :
    Calls Try.prog 53 #[.pointer (some ⟨p, 6, none⟩)] (w.setCell ⟨p, 5, none⟩ (.int .i64 ((M.calls : Int) + 1))) fun e w' => e = .returned (.tuple #[.bool (okS M), .int .i64 (errS M)]) ∧ Hid (Ro w' T q p bO cv X (askS M) ∧ Tch (· = p) w w') := by
  have t1 := Tch.set (· = p) w ⟨p, 5, none⟩ (.int .i64 ((M.calls : Int) + 1)) rfl
  have hp1 : (w.setCell ⟨p, 5, none⟩ (.int .i64 ((M.calls : Int) + 1))).heap[p]? = some (.cells (roR { M with calls := M.calls + 1 } bO cv) 42 (0, 0)) := by rw [row_set R.p_]; simp [roR]
  refine (next_is (M := { M with calls := M.calls + 1 }) hp1 hwf.lf).mono ?_
  rintro e w' ⟨rfl, hp2, t2⟩
  exact ⟨rfl, hid ⟨R.setM (t1.trans t2) hp2 rfl, t1.trans t2⟩⟩
theorem call0_is {X : List Chg} (R : Ro w T q p bO cv X M) (hwf : WfS M c) :
    Calls Try.prog 36 #[.pointer (some ⟨p, 0, none⟩), .slice none 0 0] w fun e w' => e = .returned (.int .i64 (errS M)) ∧ Ro w' T q p bO cv X (askS M) ∧ Tch (· = p) w w' := by
  have c5 : w.cell? ⟨p, 5, none⟩ = some (.int .i64 (M.calls : Int)) := held_cell R.p_ rfl
  have f5 := held_frozen (i := 5) R.p_
  have hN := ask_facts R hwf
  have hca : IntKind.i64.wrap ((M.calls : Int) + 1) = (M.calls : Int) + 1 := by have := hwf.ca; have := hwf.hc; rw [IntKind.wrap_i64]; omega
  cases ho : okS M <;> rw [ho] at hN
  · clear R hwf ho
    generalize errS M = er at *
    go_enter Try.func36, Try.ntmps36
    go_wp2_with (go_at_call 53; refine hN.mono ?_; rintro e w1 ⟨rfl, H1⟩)
    go_ret
    exact ⟨rfl, H1.out⟩
  · clear R hwf ho
    generalize errS M = er at *
    go_enter Try.func36, Try.ntmps36
    go_wp2_with (go_at_call 53; refine hN.mono ?_; rintro e w1 ⟨rfl, H1⟩)
    go_loopw [26] (fun iv wr => iv = .int .i64 0 ∧ wr = w1) (fun _ _ => 0)
    case atStart => exact ⟨rfl, rfl⟩
    case round =>
      obtain ⟨rfl, rfl⟩ := hrel
      go_wp2
      go_ret
      exact ⟨rfl, H1.out⟩
theorem kb_far {w w' : World} {T : Nat → Prop} {v : Value} {l : List Nat} (h : KB.Rd w v l) (t : Tch T w w') (hf : 0 < l.length → ∀ g, v.ownBlock = some g → ¬ T g) : KB.Rd w' v l := by
  obtain ⟨A, c, hv, hc, hr⟩ := h
  refine ⟨A, c, hv, hc, fun h0 => ?_⟩
  obtain ⟨b, off, hA, hlt, hcell⟩ := hr h0
  exact ⟨b, off, hA, Nat.lt_of_lt_of_le hlt t.size, fun j u hj => (t.cell (b := b) (i := off + j) hlt (hf h0 b (by rw [hv, hA]; rfl))).trans (hcell j u hj)⟩
theorem callP_is (R : Ro w T q p bO cv (keptS M) M) (hT : ∀ k, w.heap.size ≤ k → T k) (hwf : WfS M c) (hc : c + 2 ≤ 4194304) (k : ByteArray) (hk : nameB k = true) (B : Nat) (hB : ∀ j, FootS q p bO cv j → j < B) {sb a0 a1 a2 b0 b1 b2 : Nat} {v : Value} {l : List Nat} (hv : KB.Rd w v l) (hfar : 0 < l.length → ∀ g, v.ownBlock = some g → ¬ T g) (hlen : l.length ≤ 1048576) (hfl : fullS M k = false)
    (hs : w.heap[sb]? = some (.cells #[.func (.func 54) #[] #[.pointer (some ⟨a0, 0, none⟩), .pointer (some ⟨a1, 0, none⟩), .pointer (some ⟨a2, 0, none⟩)], .func (.func 56) #[] #[.pointer (some ⟨b0, 0, none⟩), .pointer (some ⟨b1, 0, none⟩), .pointer (some ⟨b2, 0, none⟩)]] 1 (0, 0)))
    (h0 : w.cell? ⟨a0, 0, none⟩ = some (.pointer (some ⟨p, 0, none⟩))) (h1 : w.cell? ⟨a1, 0, none⟩ = some (.string k)) (h2 : w.cell? ⟨a2, 0, none⟩ = some (.bool true)) (h3 : w.cell? ⟨b0, 0, none⟩ = some v) (h4 : w.cell? ⟨b1, 0, none⟩ = some (.pointer (some ⟨p, 0, none⟩))) (h5 : w.cell? ⟨b2, 0, none⟩ = some (.string k))
    (g : ∀ j, (j = sb ∨ j = a0 ∨ j = a1 ∨ j = a2 ∨ j = b0 ∨ j = b1 ∨ j = b2) → B ≤ j ∧ j < w.heap.size) :
    Calls Try.prog 36 #[.pointer (some ⟨p, 0, none⟩), .slice (some ⟨sb, 0, none⟩) 2 2] w fun e w' => e = .returned (.int .i64 (errS M)) ∧ Sto w' T (c + 2) q p (if okS M then actPut (askS M) k l else askS M) ∧ Tch T w w' := by
  have c5 : w.cell? ⟨p, 5, none⟩ = some (.int .i64 (M.calls : Int)) := held_cell R.p_ rfl
  have f5 := held_frozen (i := 5) R.p_
  have hN := ask_facts R hwf
  have hca : IntKind.i64.wrap ((M.calls : Int) + 1) = (M.calls : Int) + 1 := by have := hwf.ca; have := hwf.hc; rw [IntKind.wrap_i64]; omega
  have hwfA := hwf.ask (by omega)
  cases ho : okS M <;> rw [ho] at hN
  · have HF : Hid (∀ w1, Hid (Ro w1 T q p bO cv (keptS M) (askS M) ∧ Tch (· = p) w w1) → Sto w1 T (c + 2) q p (askS M) ∧ Tch T w w1) := hid (fun w1 H => ⟨⟨⟨bO, cv, H.out.1⟩, hwfA.le (by omega) hc⟩, H.out.2.mono (fun j hj => by rw [hj]; exact R.tp)⟩)
    simp only [Bool.false_eq_true, if_false]
    clear R hwf hwfA ho hs h0 h1 h2 h3 h4 h5 g hB hT
    generalize errS M = er at *
    go_enter Try.func36, Try.ntmps36
    go_wp2_with (go_at_call 53; refine hN.mono ?_; rintro e w1 ⟨rfl, H1⟩)
    go_ret
    exact ⟨rfl, HF.out _ H1⟩
  · simp only [if_true]
    -- what is far stays: the boxes and the slice
    obtain ⟨Fa, hFa⟩ : ∃ Fa : World → Prop, Fa = fun w1 => ∀ j, (j = sb ∨ j = a0 ∨ j = a1 ∨ j = a2 ∨ j = b0 ∨ j = b1 ∨ j = b2) → w1.heap[j]? = w.heap[j]? := ⟨_, rfl⟩
    have far : ∀ w1, Tch (fun j => j = p ∨ cv.ownBlock = some j) w w1 → Fa w1 := fun w1 t => by
      rw [hFa]
      intro j hj
      have := g j hj
      refine t.block j this.2 (fun h => ?_)
      rcases h with rfl | h
      · have := hB j (.inr (.inl rfl)); omega
      · have := hB j (.inr (.inr (.inr h))); omega
    have farc : ∀ w1, Fa w1 → ∀ j u, (j = sb ∨ j = a0 ∨ j = a1 ∨ j = a2 ∨ j = b0 ∨ j = b1 ∨ j = b2) → w.cell? ⟨j, 0, none⟩ = some u → w1.cell? ⟨j, 0, none⟩ = some u := fun w1 h j u hj hu => by
      rw [hFa] at h
      exact (World.cell?_of_block (h j hj)).trans hu
    have hz := (name_beg hk).2
    -- the first step
    have S1 : ∀ w1, Hid (Ro w1 T q p bO cv (keptS M) (askS M) ∧ Tch (· = p) w w1) → w1.heap[sb]? = w.heap[sb]? ∧ Calls Try.prog 54 #[.pointer (some ⟨a0, 0, none⟩), .pointer (some ⟨a1, 0, none⟩), .pointer (some ⟨a2, 0, none⟩)] w1 fun e w2 => e = .returned (.tuple #[]) ∧ Hid (∃ cv2, Ro w2 T q p bO cv2 (keptS (noteS (askS M) k true)) (noteS (askS M) k true) ∧ Tch (fun j => j = p ∨ cv.ownBlock = some j) w w2) := fun w1 H => by
      have t1 : Tch (fun j => j = p ∨ cv.ownBlock = some j) w w1 := H.out.2.mono (fun j hj => .inl hj)
      have hf := far w1 t1
      have hf2 := hf
      rw [hFa] at hf2
      refine ⟨hf2 sb (.inl rfl), (noting1_is (M := askS M) (w := w1) H.out.1 (fun j hj => hT j (Nat.le_trans t1.size hj)) hwfA (by omega) k hz true (farc w1 hf a0 _ (by simp) h0) (farc w1 hf a1 _ (by simp) h1) (farc w1 hf a2 _ (by simp) h2)).mono ?_⟩
      rintro e w2 ⟨rfl, ⟨cv2, R2, _⟩, t2⟩
      exact ⟨rfl, hid ⟨cv2, R2, t1.trans t2⟩⟩
    -- the second step
    have S2 : ∀ w2, Hid (∃ cv2, Ro w2 T q p bO cv2 (keptS (noteS (askS M) k true)) (noteS (askS M) k true) ∧ Tch (fun j => j = p ∨ cv.ownBlock = some j) w w2) → w2.heap[sb]? = w.heap[sb]? ∧ Calls Try.prog 56 #[.pointer (some ⟨b0, 0, none⟩), .pointer (some ⟨b1, 0, none⟩), .pointer (some ⟨b2, 0, none⟩)] w2 fun e w3 => e = .returned (.tuple #[]) ∧ Hid (Sto w3 T (c + 2) q p (actPut (askS M) k l) ∧ Tch T w w3) := fun w2 H => by
      obtain ⟨cv2, R2, t2⟩ := H.out
      have hf := far w2 t2
      have hf2 := hf
      rw [hFa] at hf2
      have hwfN := hwfA.note hc hz true
      have tT : Tch T w w2 := t2.mono (fun j hj => by
        rcases hj with rfl | hj
        · exact R.tp
        · exact R.tc j hj)
      have hL : (noteS (askS M) k true).L = M.L := by unfold noteS; split <;> rfl
      refine ⟨hf2 sb (.inl rfl), (holding1_is R2 (fun j hj => hT j (Nat.le_trans t2.size hj)) (by rw [hL]; exact hwf.nn) (by rw [hL]; exact hwf.ln) k hz (kb_far hv tT hfar) hlen (farc w2 hf b0 _ (by simp) h3) (farc w2 hf b1 _ (by simp) h4) (farc w2 hf b2 _ (by simp) h5) (Nat.lt_of_lt_of_le (g b0 (by simp)).2 t2.size) (Nat.lt_of_lt_of_le (g b1 (by simp)).2 t2.size) (Nat.lt_of_lt_of_le (g b2 (by simp)).2 t2.size)).mono ?_⟩
      rintro e w3 ⟨rfl, R3, t3⟩
      refine ⟨rfl, hid ⟨⟨⟨bO, cv2, ?_⟩, ?_⟩, tT.trans (t3.mono (fun j hj => by rw [hj]; exact R.tb))⟩⟩
      · rw [hL] at R3
        exact R3
      · exact hwfA.put hc hk hlen hfl
    clear hFa far farc
    clear R hwf hwfA ho h0 h1 h2 h3 h4 h5 g hB hT hk hz hv hfar
    generalize errS M = er at *
    have HN := hid hN
    clear hN
    go_enter Try.func36, Try.ntmps36
    go_wp2_with (go_at_call 53; refine HN.out.mono ?_; rintro e w1 ⟨rfl, H1⟩)
    go_loopw [26] (fun iv wr => (iv = .int .i64 0 ∧ Hid (Ro wr T q p bO cv (keptS M) (askS M) ∧ Tch (· = p) w wr)) ∨ (iv = .int .i64 1 ∧ Hid (∃ cv2, Ro wr T q p bO cv2 (keptS (noteS (askS M) k true)) (noteS (askS M) k true) ∧ Tch (fun j => j = p ∨ cv.ownBlock = some j) w wr)) ∨ (iv = .int .i64 2 ∧ Hid (Sto wr T (c + 2) q p (actPut (askS M) k l) ∧ Tch T w wr))) (fun iv _ => 2 - (intOf iv).toNat)
    case atStart => exact .inl ⟨rfl, H1⟩
    case round =>
      rcases hrel with ⟨rfl, HA⟩ | ⟨rfl, HA⟩ | ⟨rfl, HA⟩
      · obtain ⟨hsb, hcall⟩ := S1 wr HA
        have s0 := held_cell (i := 0) (hsb.trans hs) rfl
        clear hsb hs S1 S2
        go_wp2_with (go_at_call 54; refine hcall.mono ?_; rintro e w2 ⟨rfl, H2⟩)
        go_roundw
        case rel => exact .inr (.inl ⟨rfl, H2⟩)
        case measure => simp [intOf]
      · obtain ⟨hsb, hcall⟩ := S2 wr HA
        have s1 := held_cell (i := 1) (hsb.trans hs) rfl
        clear hsb hs S1 S2
        go_wp2_with (go_at_call 56; refine hcall.mono ?_; rintro e w2 ⟨rfl, H2⟩)
        go_roundw
        case rel => exact .inr (.inr ⟨rfl, H2⟩)
        case measure => simp [intOf]
      · clear S1 S2
        go_wp2
        go_ret
        exact ⟨rfl, HA.out⟩
theorem callD_is (R : Ro w T q p bO cv (keptS M) M) (hT : ∀ k, w.heap.size ≤ k → T k) (hwf : WfS M c) (hc : c + 2 ≤ 4194304) (k : ByteArray) (hk : nameB k = true) (B : Nat) (hB : ∀ j, FootS q p bO cv j → j < B) {sb a0 a1 a2 b0 b1 : Nat} 
    (hs : w.heap[sb]? = some (.cells #[.func (.func 54) #[] #[.pointer (some ⟨a0, 0, none⟩), .pointer (some ⟨a1, 0, none⟩), .pointer (some ⟨a2, 0, none⟩)], .func (.func 63) #[] #[.pointer (some ⟨b0, 0, none⟩), .pointer (some ⟨b1, 0, none⟩)]] 1 (0, 0)))
    (h0 : w.cell? ⟨a0, 0, none⟩ = some (.pointer (some ⟨p, 0, none⟩))) (h1 : w.cell? ⟨a1, 0, none⟩ = some (.string k)) (h2 : w.cell? ⟨a2, 0, none⟩ = some (.bool false)) (h3 : w.cell? ⟨b0, 0, none⟩ = some (.pointer (some ⟨p, 0, none⟩))) (h4 : w.cell? ⟨b1, 0, none⟩ = some (.string k))
    (g : ∀ j, (j = sb ∨ j = a0 ∨ j = a1 ∨ j = a2 ∨ j = b0 ∨ j = b1) → B ≤ j ∧ j < w.heap.size) :
    Calls Try.prog 36 #[.pointer (some ⟨p, 0, none⟩), .slice (some ⟨sb, 0, none⟩) 2 2] w fun e w' => e = .returned (.int .i64 (errS M)) ∧ Sto w' T (c + 2) q p (if okS M then actDel (askS M) k else askS M) ∧ Tch T w w' := by
  have c5 : w.cell? ⟨p, 5, none⟩ = some (.int .i64 (M.calls : Int)) := held_cell R.p_ rfl
  have f5 := held_frozen (i := 5) R.p_
  have hN := ask_facts R hwf
  have hca : IntKind.i64.wrap ((M.calls : Int) + 1) = (M.calls : Int) + 1 := by have := hwf.ca; have := hwf.hc; rw [IntKind.wrap_i64]; omega
  have hwfA := hwf.ask (by omega)
  cases ho : okS M <;> rw [ho] at hN
  · have HF : Hid (∀ w1, Hid (Ro w1 T q p bO cv (keptS M) (askS M) ∧ Tch (· = p) w w1) → Sto w1 T (c + 2) q p (askS M) ∧ Tch T w w1) := hid (fun w1 H => ⟨⟨⟨bO, cv, H.out.1⟩, hwfA.le (by omega) hc⟩, H.out.2.mono (fun j hj => by rw [hj]; exact R.tp)⟩)
    simp only [Bool.false_eq_true, if_false]
    clear R hwf hwfA ho hs h0 h1 h2 h3 h4 g hB hT
    generalize errS M = er at *
    go_enter Try.func36, Try.ntmps36
    go_wp2_with (go_at_call 53; refine hN.mono ?_; rintro e w1 ⟨rfl, H1⟩)
    go_ret
    exact ⟨rfl, HF.out _ H1⟩
  · simp only [if_true]
    -- what is far stays: the boxes and the slice
    obtain ⟨Fa, hFa⟩ : ∃ Fa : World → Prop, Fa = fun w1 => ∀ j, (j = sb ∨ j = a0 ∨ j = a1 ∨ j = a2 ∨ j = b0 ∨ j = b1) → w1.heap[j]? = w.heap[j]? := ⟨_, rfl⟩
    have far : ∀ w1, Tch (fun j => j = p ∨ cv.ownBlock = some j) w w1 → Fa w1 := fun w1 t => by
      rw [hFa]
      intro j hj
      have := g j hj
      refine t.block j this.2 (fun h => ?_)
      rcases h with rfl | h
      · have := hB j (.inr (.inl rfl)); omega
      · have := hB j (.inr (.inr (.inr h))); omega
    have farc : ∀ w1, Fa w1 → ∀ j u, (j = sb ∨ j = a0 ∨ j = a1 ∨ j = a2 ∨ j = b0 ∨ j = b1) → w.cell? ⟨j, 0, none⟩ = some u → w1.cell? ⟨j, 0, none⟩ = some u := fun w1 h j u hj hu => by
      rw [hFa] at h
      exact (World.cell?_of_block (h j hj)).trans hu
    have hz := (name_beg hk).2
    -- the first step
    have S1 : ∀ w1, Hid (Ro w1 T q p bO cv (keptS M) (askS M) ∧ Tch (· = p) w w1) → w1.heap[sb]? = w.heap[sb]? ∧ Calls Try.prog 54 #[.pointer (some ⟨a0, 0, none⟩), .pointer (some ⟨a1, 0, none⟩), .pointer (some ⟨a2, 0, none⟩)] w1 fun e w2 => e = .returned (.tuple #[]) ∧ Hid (∃ cv2, Ro w2 T q p bO cv2 (keptS (noteS (askS M) k false)) (noteS (askS M) k false) ∧ Tch (fun j => j = p ∨ cv.ownBlock = some j) w w2) := fun w1 H => by
      have t1 : Tch (fun j => j = p ∨ cv.ownBlock = some j) w w1 := H.out.2.mono (fun j hj => .inl hj)
      have hf := far w1 t1
      have hf2 := hf
      rw [hFa] at hf2
      refine ⟨hf2 sb (.inl rfl), (noting1_is (M := askS M) (w := w1) H.out.1 (fun j hj => hT j (Nat.le_trans t1.size hj)) hwfA (by omega) k hz false (farc w1 hf a0 _ (by simp) h0) (farc w1 hf a1 _ (by simp) h1) (farc w1 hf a2 _ (by simp) h2)).mono ?_⟩
      rintro e w2 ⟨rfl, ⟨cv2, R2, _⟩, t2⟩
      exact ⟨rfl, hid ⟨cv2, R2, t1.trans t2⟩⟩
    -- the second step
    have S2 : ∀ w2, Hid (∃ cv2, Ro w2 T q p bO cv2 (keptS (noteS (askS M) k false)) (noteS (askS M) k false) ∧ Tch (fun j => j = p ∨ cv.ownBlock = some j) w w2) → w2.heap[sb]? = w.heap[sb]? ∧ Calls Try.prog 63 #[.pointer (some ⟨b0, 0, none⟩), .pointer (some ⟨b1, 0, none⟩)] w2 fun e w3 => e = .returned (.tuple #[]) ∧ Hid (Sto w3 T (c + 2) q p (actDel (askS M) k) ∧ Tch T w w3) := fun w2 H => by
      obtain ⟨cv2, R2, t2⟩ := H.out
      have hf := far w2 t2
      have hf2 := hf
      rw [hFa] at hf2
      have hwfN := hwfA.note hc hz false
      have tT : Tch T w w2 := t2.mono (fun j hj => by
        rcases hj with rfl | hj
        · exact R.tp
        · exact R.tc j hj)
      have hL : (noteS (askS M) k false).L = M.L := by unfold noteS; split <;> rfl
      refine ⟨hf2 sb (.inl rfl), (dropping1_is R2 (by rw [hL]; exact hwf.nn) k hz (farc w2 hf b0 _ (by simp) h3) (farc w2 hf b1 _ (by simp) h4)).mono ?_⟩
      rintro e w3 ⟨rfl, R3, t3⟩
      refine ⟨rfl, hid ⟨⟨⟨bO, cv2, ?_⟩, ?_⟩, tT.trans (t3.mono (fun j hj => by rw [hj]; exact R.tb))⟩⟩
      · rw [hL] at R3
        exact R3
      · exact hwfA.del hc hk
    clear hFa far farc
    clear R hwf hwfA ho h0 h1 h2 h3 h4 g hB hT hk hz
    generalize errS M = er at *
    have HN := hid hN
    clear hN
    go_enter Try.func36, Try.ntmps36
    go_wp2_with (go_at_call 53; refine HN.out.mono ?_; rintro e w1 ⟨rfl, H1⟩)
    go_loopw [26] (fun iv wr => (iv = .int .i64 0 ∧ Hid (Ro wr T q p bO cv (keptS M) (askS M) ∧ Tch (· = p) w wr)) ∨ (iv = .int .i64 1 ∧ Hid (∃ cv2, Ro wr T q p bO cv2 (keptS (noteS (askS M) k false)) (noteS (askS M) k false) ∧ Tch (fun j => j = p ∨ cv.ownBlock = some j) w wr)) ∨ (iv = .int .i64 2 ∧ Hid (Sto wr T (c + 2) q p (actDel (askS M) k) ∧ Tch T w wr))) (fun iv _ => 2 - (intOf iv).toNat)
    case atStart => exact .inl ⟨rfl, H1⟩
    case round =>
      rcases hrel with ⟨rfl, HA⟩ | ⟨rfl, HA⟩ | ⟨rfl, HA⟩
      · obtain ⟨hsb, hcall⟩ := S1 wr HA
        have s0 := held_cell (i := 0) (hsb.trans hs) rfl
        clear hsb hs S1 S2
        go_wp2_with (go_at_call 54; refine hcall.mono ?_; rintro e w2 ⟨rfl, H2⟩)
        go_roundw
        case rel => exact .inr (.inl ⟨rfl, H2⟩)
        case measure => simp [intOf]
      · obtain ⟨hsb, hcall⟩ := S2 wr HA
        have s1 := held_cell (i := 1) (hsb.trans hs) rfl
        clear hsb hs S1 S2
        go_wp2_with (go_at_call 63; refine hcall.mono ?_; rintro e w2 ⟨rfl, H2⟩)
        go_roundw
        case rel => exact .inr (.inr ⟨rfl, H2⟩)
        case measure => simp [intOf]
      · clear S1 S2
        go_wp2
        go_ret
        exact ⟨rfl, HA.out⟩
end Go.Proofs.Ytcohpgahffbnlaa
