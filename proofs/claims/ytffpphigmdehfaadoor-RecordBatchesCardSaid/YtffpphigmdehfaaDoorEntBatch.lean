/-
  Lists of entries in memory; which may be a batch: what record.rightBatch answers. Conditions: those that each theorem names.
-/
import Derived.Test.YtffpphigmdehfaaDoorEntKnow
import Derived.Test.YtffpphigmdehfaaDoorRRead
namespace Go.Icz
open Go.RowKit
/-- The slice v reads as the entries l. -/
def RdE (w : World) (v : Value) (l : List Ent) : Prop :=
  ∃ A c, v = .slice A l.length c ∧ l.length ≤ c ∧ (0 < l.length → ∃ b off, A = some ⟨b, off, none⟩ ∧ b < w.heap.size ∧
    ∀ j (hj : j < l.length), ∃ A' c', w.cell? ⟨b, off + j * 4, none⟩ = some (.int .i64 (l[j]).seq) ∧ w.cell? ⟨b, off + j * 4 + 1, none⟩ = some (.int .i64 (l[j]).time) ∧ w.cell? ⟨b, off + j * 4 + 2, none⟩ = some (.slice A' (l[j]).labs.length c') ∧ w.cell? ⟨b, off + j * 4 + 3, none⟩ = some (.string ⟨(l[j]).line.toArray⟩) ∧ RdL w (.slice A' (l[j]).labs.length c') (l[j]).labs)
theorem RdE.below {w w' : World} {v : Value} {l : List Ent} (h : RdE w v l) (hb : Below w.heap.size w w') : RdE w' v l := by
  obtain ⟨A, c, hv, hc, hr⟩ := h
  refine ⟨A, c, hv, hc, fun h0 => ?_⟩
  obtain ⟨b, off, hA, hlt, hcell⟩ := hr h0
  refine ⟨b, off, hA, Nat.lt_of_lt_of_le hlt hb.size, fun j hj => ?_⟩
  obtain ⟨A', c', h0, h1, h2, h3, h4⟩ := hcell j hj
  exact ⟨A', c', (hb.cell (p := ⟨b, off + j * 4, none⟩) hlt).trans h0, (hb.cell (p := ⟨b, off + j * 4 + 1, none⟩) hlt).trans h1, (hb.cell (p := ⟨b, off + j * 4 + 2, none⟩) hlt).trans h2, (hb.cell (p := ⟨b, off + j * 4 + 3, none⟩) hlt).trans h3, h4.below hb⟩
def batC (p : Option Int) : List Ent → Bool
  | [] => true
  | x :: t => entR x && (match p with | none => true | some s => decide (x.seq = s + 1)) && batC (some x.seq) t
def prevS (l : List Ent) (k : Nat) : Option Int := if k = 0 then none else some (l.getD (k - 1) ⟨0, 0, [], []⟩).seq
/-- May the entries be a batch? -/
def batR (l : List Ent) : Bool := decide (1 ≤ l.length ∧ l.length ≤ 16) && batC none l
end Go.Icz
namespace Go.Proofs.YtffpphigmdehfaaDoor
open Go.RowKit Go.Icz
set_option maxHeartbeats 4000000 in
set_option maxRecDepth 100000 in
theorem rightBatch_is (v : Value) (l : List Ent) (w : World) (hR : RdE w v l) (hT : Tabs w) (hz : ∀ x ∈ l, entZ x) :
    Calls Tryd.prog 78 #[v] w fun e w' => e = .returned (.bool (batR l)) ∧ Below w.heap.size w w' := by
  obtain ⟨A, c, rfl, hlc, hcell⟩ := hR
  by_cases h1 : 1 ≤ l.length
  · by_cases h16 : l.length ≤ 16
    · have HR : Hid (batR l = batC none l) := hid (by unfold batR; rw [decide_eq_true ⟨h1, h16⟩, Bool.true_and])
      obtain ⟨b, off, rfl, hb, hcell⟩ := hcell h1
      have h1' : ¬ (l.length : Int) < 1 := by omega
      have h16' : ¬ (16 : Int) < l.length := by omega
      go_enter Tryd.func78, Tryd.ntmps78
      go_wp2
      go_loopw [15] (fun kv wr => ∃ i : Nat, kv = .int .i64 i ∧ i ≤ l.length ∧ Below w.heap.size w wr ∧ Hid (batC none l = batC (prevS l i) (l.drop i)) ∧ Hid (0 < i → entR (l.getD (i - 1) ⟨0, 0, [], []⟩) = true)) (fun kv _ => l.length - (intOf kv).toNat)
      case atStart => exact ⟨0, rfl, by omega, Below.refl _ _, hid rfl, hid (fun h => absurd h (by omega))⟩
      case round =>
        obtain ⟨i, rfl, hi, hbw, HX, HP⟩ := hrel
        by_cases hlt : i < l.length
        · obtain ⟨A', c', c0, c1, c2, c3, rl⟩ := hcell i hlt
          have c0 := (hbw.cell (p := ⟨b, off + i * 4, none⟩) hb).trans c0
          have c1 := (hbw.cell (p := ⟨b, off + i * 4 + 1, none⟩) hb).trans c1
          have c2 := (hbw.cell (p := ⟨b, off + i * 4 + 2, none⟩) hb).trans c2
          have c3 := (hbw.cell (p := ⟨b, off + i * 4 + 3, none⟩) hb).trans c3
          have rl := rl.below hbw
          have hbz := Nat.lt_of_lt_of_le hb hbw.size
          have hxz := hz l[i] (List.getElem_mem hlt)
          have hTr := hT.below hbw
          have hgd : l.getD i ⟨0, 0, [], []⟩ = l[i] := by simp [List.getD, List.getElem?_eq_getElem hlt]
          have hpc : ∀ h : 0 < i, ∃ p, w.cell? ⟨b, off + (i - 1) * 4, none⟩ = some (.int .i64 p) ∧ p = (l.getD (i - 1) ⟨0, 0, [], []⟩).seq := fun h => by
            obtain ⟨_, _, k0, _⟩ := hcell (i - 1) (by omega)
            exact ⟨_, k0, by simp [List.getD, List.getElem?_eq_getElem (show i - 1 < l.length by omega)]⟩
          obtain ⟨p, hp⟩ : ∃ p, p = (l.getD (i - 1) ⟨0, 0, [], []⟩).seq := ⟨_, rfl⟩
          have hp0 : 0 < i → wr.cell? ⟨b, off + (i - 1) * 4, none⟩ = some (.int .i64 p) := fun h => by
            obtain ⟨p', k0, k1⟩ := hpc h
            rw [hp, ← k1]
            exact (hbw.cell (p := ⟨b, off + (i - 1) * 4, none⟩) hb).trans k0
          have hpb : 0 < i → 1 ≤ p ∧ p < 1099511627776 := fun h => by
            have h2 := HP.out h
            unfold entR at h2
            simp only [Bool.and_eq_true, decide_eq_true_eq] at h2
            rw [hp]; exact h2.1.1.1
          have HD : Hid (l.drop i = l[i] :: l.drop (i + 1)) := hid (List.drop_eq_getElem_cons hlt)
          have HPS : Hid (prevS l (i + 1) = some (l[i]).seq) := hid (by unfold prevS; rw [if_neg (by omega), Nat.add_sub_cancel, hgd])
          have HN : Hid (l.getD (i + 1 - 1) ⟨0, 0, [], []⟩ = l[i]) := hid (by rw [Nat.add_sub_cancel, hgd])
          have HPP : Hid (prevS l i = if i = 0 then none else some p) := hid (by unfold prevS; rw [hp])
          clear hcell hgd hpc HP hp
          generalize l[i] = x at *
          have hRt := fun w1 (g : RdL w1 (.slice A' x.labs.length c') x.labs) (hT1 : Tabs w1) => ERight_is x A' c' w1 g hT1 hxz
          clear hxz
          go_wp2_with fail
          have rE : RdL (wr.alloc (.cells #[.int .i64 x.seq, .int .i64 x.time, .slice A' x.labs.length c', .string ⟨x.line.toArray⟩] 24)).drew (.slice A' x.labs.length c') x.labs := (rl.alloc _).below (Below.refl _ _).drew
          have TE : Tabs (wr.alloc (.cells #[.int .i64 x.seq, .int .i64 x.time, .slice A' x.labs.length c', .string ⟨x.line.toArray⟩] 24)).drew := hTr.below (((Below.refl _ _).alloc (Nat.le_refl _) _).drew)
          have hnew := heap_alloc_new wr (.cells #[.int .i64 x.seq, .int .i64 x.time, .slice A' x.labs.length c', .string ⟨x.line.toArray⟩] 24)
          have hbx : Below wr.heap.size wr (wr.alloc (.cells #[.int .i64 x.seq, .int .i64 x.time, .slice A' x.labs.length c', .string ⟨x.line.toArray⟩] 24)) := (Below.refl _ _).alloc (Nat.le_refl _) _
          generalize wr.alloc (.cells #[.int .i64 x.seq, .int .i64 x.time, .slice A' x.labs.length c', .string ⟨x.line.toArray⟩] 24) = W4 at *
          have mkS : ∀ w', Below W4.heap.size W4 w' → Below W4.heap.size W4 w' ∧ w'.cell? ⟨wr.heap.size, 0, none⟩ = some (.int .i64 x.seq) ∧ w'.cell? ⟨wr.heap.size, 1, none⟩ = some (.int .i64 x.time) ∧ w'.cell? ⟨wr.heap.size, 2, none⟩ = some (.slice A' x.labs.length c') ∧ w'.cell? ⟨wr.heap.size, 3, none⟩ = some (.string ⟨x.line.toArray⟩) ∧ (0 < i → w'.cell? ⟨b, off + (i - 1) * 4, none⟩ = some (.int .i64 p)) := fun w' h =>
            ⟨h, held_cell (keep4 hnew h) rfl, held_cell (keep4 hnew h) rfl, held_cell (keep4 hnew h) rfl, held_cell (keep4 hnew h) rfl, fun h0 => (h.cell (p := ⟨b, off + (i - 1) * 4, none⟩) (Nat.lt_of_lt_of_le hbz hbx.size)).trans ((hbx.cell (p := ⟨b, off + (i - 1) * 4, none⟩) hbz).trans (hp0 h0))⟩
          clear hnew c0 c1 c2 c3 rl hp0 hTr hT
          cases hr : entR x with
          | false =>
            rw [hr] at hRt
            have HF : Hid (batR l = false) := hid (by rw [HR.out, HX.out, HD.out]; simp [batC, hr])
            clear hr HX HR HD
            refine wp_region_held_drew (S := fun w' => Below W4.heap.size W4 w' ∧ w'.cell? ⟨wr.heap.size, 0, none⟩ = some (.int .i64 x.seq) ∧ w'.cell? ⟨wr.heap.size, 1, none⟩ = some (.int .i64 x.time) ∧ w'.cell? ⟨wr.heap.size, 2, none⟩ = some (.slice A' x.labs.length c') ∧ w'.cell? ⟨wr.heap.size, 3, none⟩ = some (.string ⟨x.line.toArray⟩) ∧ (0 < i → w'.cell? ⟨b, off + (i - 1) * 4, none⟩ = some (.int .i64 p))) (by kernel_rfl) (mkS _ (Below.refl _ _).drew) (fun hHeld => ?_)
            refine takeAt (i := 0) (d := 20) (v := entV x A' c') rfl rfl (by kernel_rfl) (by kernel_rfl) (by kernel_rfl) (fun _ _ _ h => h) (Or.inl ⟨by rfl, fun w hSw => by obtain ⟨hS0, hS1, hS2, hS3, hS4, hS5⟩ := hSw; go_simp; rfl⟩) hHeld ?_
            simp only [List.setIfInBounds_toArray, List.set_cons_zero, List.set_cons_succ]
            refine wpAnyH_ready (rs := [1]) (by kernel_rfl) (by simp) ?_
            refine AllReadyH.cons (o := { dst := some 21, op := Go.Op.call { callee := Go.Callee.value (Go.Operand.func 20), args := #[Go.Operand.tmp 20], argTypes := #[24] }, type := 4, pos := "batch.go:15", after := #[{ on := 0, ground := Go.Ground.data }], guard := none }) rfl (fun K hK => ?_) AllReadyH.nil
            rw [if_pos (by rfl)]
            go_simp
            refine (hRt _ rE TE).mono ?_
            rintro e w2 ⟨rfl, b2⟩
            refine hK.out _ _ (mkS _ (below_of_drewN (n := 1) b2)) (fun hHeld2 => ?_)
            clear hK K
            try simp only [Act.put, List.setIfInBounds_toArray, List.set_cons_zero, List.set_cons_succ]
            refine takeAt (i := 2) (d := 22) (v := .bool true) rfl rfl (by kernel_rfl) (by kernel_rfl) (by kernel_rfl) (fun _ _ _ h => h) (Or.inl ⟨by rfl, fun w hSw => by obtain ⟨hS0, hS1, hS2, hS3, hS4, hS5⟩ := hSw; go_simp⟩) hHeld2 ?_
            simp only [List.setIfInBounds_toArray, List.set_cons_zero, List.set_cons_succ]
            refine takeAt (i := 3) (d := 23) (v := .bool true) rfl rfl (by kernel_rfl) (by kernel_rfl) (by kernel_rfl) (fun _ _ _ h => h) (Or.inl ⟨by rfl, fun w hSw => by obtain ⟨hS0, hS1, hS2, hS3, hS4, hS5⟩ := hSw; go_simp⟩) hHeld2 ?_
            simp only [List.setIfInBounds_toArray, List.set_cons_zero, List.set_cons_succ]
            refine takeAt (i := 4) (d := 24) (v := undef) rfl rfl (by kernel_rfl) (by kernel_rfl) (by kernel_rfl) (fun _ _ _ h => h) (Or.inr ⟨by rfl, rfl⟩) hHeld2 ?_
            simp only [List.setIfInBounds_toArray, List.set_cons_zero, List.set_cons_succ]
            refine takeAt (i := 5) (d := 25) (v := undef) rfl rfl (by kernel_rfl) (by kernel_rfl) (by kernel_rfl) (fun _ _ _ h => h) (Or.inr ⟨by rfl, rfl⟩) hHeld2 ?_
            simp only [List.setIfInBounds_toArray, List.set_cons_zero, List.set_cons_succ]
            refine takeAt (i := 6) (d := 26) (v := undef) rfl rfl (by kernel_rfl) (by kernel_rfl) (by kernel_rfl) (fun _ _ _ h => h) (Or.inr ⟨by rfl, rfl⟩) hHeld2 ?_
            simp only [List.setIfInBounds_toArray, List.set_cons_zero, List.set_cons_succ]
            refine takeAt (i := 7) (d := 27) (v := undef) rfl rfl (by kernel_rfl) (by kernel_rfl) (by kernel_rfl) (fun _ _ _ h => h) (Or.inr ⟨by rfl, rfl⟩) hHeld2 ?_
            simp only [List.setIfInBounds_toArray, List.set_cons_zero, List.set_cons_succ]
            refine takeAt (i := 8) (d := 28) (v := undef) rfl rfl (by kernel_rfl) (by kernel_rfl) (by kernel_rfl) (fun _ _ _ h => h) (Or.inr ⟨by rfl, rfl⟩) hHeld2 ?_
            simp only [List.setIfInBounds_toArray, List.set_cons_zero, List.set_cons_succ]
            refine takeAt (i := 9) (d := 29) (v := undef) rfl rfl (by kernel_rfl) (by kernel_rfl) (by kernel_rfl) (fun _ _ _ h => h) (Or.inr ⟨by rfl, rfl⟩) hHeld2 ?_
            simp only [List.setIfInBounds_toArray, List.set_cons_zero, List.set_cons_succ]
            refine takeAt (i := 10) (d := 30) (v := undef) rfl rfl (by kernel_rfl) (by kernel_rfl) (by kernel_rfl) (fun _ _ _ h => h) (Or.inr ⟨by rfl, rfl⟩) hHeld2 ?_
            simp only [List.setIfInBounds_toArray, List.set_cons_zero, List.set_cons_succ]
            refine takeAt (i := 11) (d := 31) (v := undef) rfl rfl (by kernel_rfl) (by kernel_rfl) (by kernel_rfl) (fun _ _ _ h => h) (Or.inr ⟨by rfl, rfl⟩) hHeld2 ?_
            simp only [List.setIfInBounds_toArray, List.set_cons_zero, List.set_cons_succ]
            refine takeAt (i := 12) (d := 32) (v := undef) rfl rfl (by kernel_rfl) (by kernel_rfl) (by kernel_rfl) (fun _ _ _ h => h) (Or.inr ⟨by rfl, rfl⟩) hHeld2 ?_
            simp only [List.setIfInBounds_toArray, List.set_cons_zero, List.set_cons_succ]
            refine takeAt (i := 13) (d := 33) (v := undef) rfl rfl (by kernel_rfl) (by kernel_rfl) (by kernel_rfl) (fun _ _ _ h => h) (Or.inr ⟨by rfl, rfl⟩) hHeld2 ?_
            simp only [List.setIfInBounds_toArray, List.set_cons_zero, List.set_cons_succ]
            refine takeAt (i := 14) (d := 34) (v := undef) rfl rfl (by kernel_rfl) (by kernel_rfl) (by kernel_rfl) (fun _ _ _ h => h) (Or.inr ⟨by rfl, rfl⟩) hHeld2 ?_
            simp only [List.setIfInBounds_toArray, List.set_cons_zero, List.set_cons_succ]
            refine takeAt (i := 15) (d := 35) (v := undef) rfl rfl (by kernel_rfl) (by kernel_rfl) (by kernel_rfl) (fun _ _ _ h => h) (Or.inr ⟨by rfl, rfl⟩) hHeld2 ?_
            simp only [List.setIfInBounds_toArray, List.set_cons_zero, List.set_cons_succ]
            refine takeAt (i := 16) (d := 36) (v := undef) rfl rfl (by kernel_rfl) (by kernel_rfl) (by kernel_rfl) (fun _ _ _ h => h) (Or.inr ⟨by rfl, rfl⟩) hHeld2 ?_
            simp only [List.setIfInBounds_toArray, List.set_cons_zero, List.set_cons_succ]
            refine takeAt (i := 17) (d := 37) (v := undef) rfl rfl (by kernel_rfl) (by kernel_rfl) (by kernel_rfl) (fun _ _ _ h => h) (Or.inr ⟨by rfl, rfl⟩) hHeld2 ?_
            simp only [List.setIfInBounds_toArray, List.set_cons_zero, List.set_cons_succ]
            refine takeAt (i := 18) (d := 38) (v := .bool true) rfl rfl (by kernel_rfl) (by kernel_rfl) (by kernel_rfl) (fun _ _ _ h => h) (Or.inl ⟨by rfl, fun w hSw => by obtain ⟨hS0, hS1, hS2, hS3, hS4, hS5⟩ := hSw; go_simp⟩) hHeld2 ?_
            simp only [List.setIfInBounds_toArray, List.set_cons_zero, List.set_cons_succ]
            refine wpAnyH_done (by kernel_rfl) ?_ _
            go_wp2_with fail
            go_ret
            exact ⟨by rw [HF.out]; rfl, hbw.trans ((hbx.trans (hHeld2.1.mono hbx.size)).mono hbw.size)⟩
          | true =>
            rw [hr] at hRt
            by_cases h0 : i = 0
            · have HG : Hid (batC none l = batC (prevS l (i + 1)) (l.drop (i + 1))) := hid (by rw [HX.out, HD.out, HPS.out, HPP.out, if_pos h0]; simp [batC, hr])
              have HE := hid hr
              have hni : ¬ (0 : Int) < (i : Int) := by omega
              have hni2 : decide (0 < i) = false := decide_eq_false (by omega)
              clear hr HX HD h0
              refine wp_region_held_drew (S := fun w' => Below W4.heap.size W4 w' ∧ w'.cell? ⟨wr.heap.size, 0, none⟩ = some (.int .i64 x.seq) ∧ w'.cell? ⟨wr.heap.size, 1, none⟩ = some (.int .i64 x.time) ∧ w'.cell? ⟨wr.heap.size, 2, none⟩ = some (.slice A' x.labs.length c') ∧ w'.cell? ⟨wr.heap.size, 3, none⟩ = some (.string ⟨x.line.toArray⟩) ∧ (0 < i → w'.cell? ⟨b, off + (i - 1) * 4, none⟩ = some (.int .i64 p))) (by kernel_rfl) (mkS _ (Below.refl _ _).drew) (fun hHeld => ?_)
              refine takeAt (i := 0) (d := 20) (v := entV x A' c') rfl rfl (by kernel_rfl) (by kernel_rfl) (by kernel_rfl) (fun _ _ _ h => h) (Or.inl ⟨by rfl, fun w hSw => by obtain ⟨hS0, hS1, hS2, hS3, hS4, hS5⟩ := hSw; go_simp; rfl⟩) hHeld ?_
              simp only [List.setIfInBounds_toArray, List.set_cons_zero, List.set_cons_succ]
              refine wpAnyH_ready (rs := [1]) (by kernel_rfl) (by simp) ?_
              refine AllReadyH.cons (o := { dst := some 21, op := Go.Op.call { callee := Go.Callee.value (Go.Operand.func 20), args := #[Go.Operand.tmp 20], argTypes := #[24] }, type := 4, pos := "batch.go:15", after := #[{ on := 0, ground := Go.Ground.data }], guard := none }) rfl (fun K hK => ?_) AllReadyH.nil
              rw [if_pos (by rfl)]
              go_simp
              refine (hRt _ rE TE).mono ?_
              rintro e w2 ⟨rfl, b2⟩
              refine hK.out _ _ (mkS _ (below_of_drewN (n := 1) b2)) (fun hHeld2 => ?_)
              clear hK K
              try simp only [Act.put, List.setIfInBounds_toArray, List.set_cons_zero, List.set_cons_succ]
              refine takeAt (i := 2) (d := 22) (v := .bool false) rfl rfl (by kernel_rfl) (by kernel_rfl) (by kernel_rfl) (fun _ _ _ h => h) (Or.inl ⟨by rfl, fun w hSw => by obtain ⟨hS0, hS1, hS2, hS3, hS4, hS5⟩ := hSw; go_simp⟩) hHeld2 ?_
              simp only [List.setIfInBounds_toArray, List.set_cons_zero, List.set_cons_succ]
              refine takeAt (i := 3) (d := 23) (v := .bool false) rfl rfl (by kernel_rfl) (by kernel_rfl) (by kernel_rfl) (fun _ _ _ h => h) (Or.inl ⟨by rfl, fun w hSw => by obtain ⟨hS0, hS1, hS2, hS3, hS4, hS5⟩ := hSw; go_simp⟩) hHeld2 ?_
              simp only [List.setIfInBounds_toArray, List.set_cons_zero, List.set_cons_succ]
              refine takeAt (i := 4) (d := 24) (v := .int .i64 i) rfl rfl (by kernel_rfl) (by kernel_rfl) (by kernel_rfl) (fun _ _ _ h => h) (Or.inl ⟨by rfl, fun w hSw => by obtain ⟨hS0, hS1, hS2, hS3, hS4, hS5⟩ := hSw; go_simp⟩) hHeld2 ?_
              simp only [List.setIfInBounds_toArray, List.set_cons_zero, List.set_cons_succ]
              refine takeAt (i := 5) (d := 25) (v := .bool false) rfl rfl (by kernel_rfl) (by kernel_rfl) (by kernel_rfl) (fun _ _ _ h => h) (Or.inl ⟨by rfl, fun w hSw => by obtain ⟨hS0, hS1, hS2, hS3, hS4, hS5⟩ := hSw; go_simp⟩) hHeld2 ?_
              simp only [List.setIfInBounds_toArray, List.set_cons_zero, List.set_cons_succ]
              refine takeAt (i := 6) (d := 26) (v := .bool false) rfl rfl (by kernel_rfl) (by kernel_rfl) (by kernel_rfl) (fun _ _ _ h => h) (Or.inl ⟨by rfl, fun w hSw => by obtain ⟨hS0, hS1, hS2, hS3, hS4, hS5⟩ := hSw; go_simp⟩) hHeld2 ?_
              simp only [List.setIfInBounds_toArray, List.set_cons_zero, List.set_cons_succ]
              refine takeAt (i := 7) (d := 27) (v := undef) rfl rfl (by kernel_rfl) (by kernel_rfl) (by kernel_rfl) (fun _ _ _ h => h) (Or.inr ⟨by rfl, rfl⟩) hHeld2 ?_
              simp only [List.setIfInBounds_toArray, List.set_cons_zero, List.set_cons_succ]
              refine takeAt (i := 8) (d := 28) (v := undef) rfl rfl (by kernel_rfl) (by kernel_rfl) (by kernel_rfl) (fun _ _ _ h => h) (Or.inr ⟨by rfl, rfl⟩) hHeld2 ?_
              simp only [List.setIfInBounds_toArray, List.set_cons_zero, List.set_cons_succ]
              refine takeAt (i := 9) (d := 29) (v := undef) rfl rfl (by kernel_rfl) (by kernel_rfl) (by kernel_rfl) (fun _ _ _ h => h) (Or.inr ⟨by rfl, rfl⟩) hHeld2 ?_
              simp only [List.setIfInBounds_toArray, List.set_cons_zero, List.set_cons_succ]
              refine takeAt (i := 10) (d := 30) (v := undef) rfl rfl (by kernel_rfl) (by kernel_rfl) (by kernel_rfl) (fun _ _ _ h => h) (Or.inr ⟨by rfl, rfl⟩) hHeld2 ?_
              simp only [List.setIfInBounds_toArray, List.set_cons_zero, List.set_cons_succ]
              refine takeAt (i := 11) (d := 31) (v := undef) rfl rfl (by kernel_rfl) (by kernel_rfl) (by kernel_rfl) (fun _ _ _ h => h) (Or.inr ⟨by rfl, rfl⟩) hHeld2 ?_
              simp only [List.setIfInBounds_toArray, List.set_cons_zero, List.set_cons_succ]
              refine takeAt (i := 12) (d := 32) (v := undef) rfl rfl (by kernel_rfl) (by kernel_rfl) (by kernel_rfl) (fun _ _ _ h => h) (Or.inr ⟨by rfl, rfl⟩) hHeld2 ?_
              simp only [List.setIfInBounds_toArray, List.set_cons_zero, List.set_cons_succ]
              refine takeAt (i := 13) (d := 33) (v := undef) rfl rfl (by kernel_rfl) (by kernel_rfl) (by kernel_rfl) (fun _ _ _ h => h) (Or.inr ⟨by rfl, rfl⟩) hHeld2 ?_
              simp only [List.setIfInBounds_toArray, List.set_cons_zero, List.set_cons_succ]
              refine takeAt (i := 14) (d := 34) (v := undef) rfl rfl (by kernel_rfl) (by kernel_rfl) (by kernel_rfl) (fun _ _ _ h => h) (Or.inr ⟨by rfl, rfl⟩) hHeld2 ?_
              simp only [List.setIfInBounds_toArray, List.set_cons_zero, List.set_cons_succ]
              refine takeAt (i := 15) (d := 35) (v := undef) rfl rfl (by kernel_rfl) (by kernel_rfl) (by kernel_rfl) (fun _ _ _ h => h) (Or.inr ⟨by rfl, rfl⟩) hHeld2 ?_
              simp only [List.setIfInBounds_toArray, List.set_cons_zero, List.set_cons_succ]
              refine takeAt (i := 16) (d := 36) (v := undef) rfl rfl (by kernel_rfl) (by kernel_rfl) (by kernel_rfl) (fun _ _ _ h => h) (Or.inr ⟨by rfl, rfl⟩) hHeld2 ?_
              simp only [List.setIfInBounds_toArray, List.set_cons_zero, List.set_cons_succ]
              refine takeAt (i := 17) (d := 37) (v := .bool false) rfl rfl (by kernel_rfl) (by kernel_rfl) (by kernel_rfl) (fun _ _ _ h => h) (Or.inl ⟨by rfl, fun w hSw => by obtain ⟨hS0, hS1, hS2, hS3, hS4, hS5⟩ := hSw; go_simp⟩) hHeld2 ?_
              simp only [List.setIfInBounds_toArray, List.set_cons_zero, List.set_cons_succ]
              refine takeAt (i := 18) (d := 38) (v := .bool false) rfl rfl (by kernel_rfl) (by kernel_rfl) (by kernel_rfl) (fun _ _ _ h => h) (Or.inl ⟨by rfl, fun w hSw => by obtain ⟨hS0, hS1, hS2, hS3, hS4, hS5⟩ := hSw; go_simp⟩) hHeld2 ?_
              simp only [List.setIfInBounds_toArray, List.set_cons_zero, List.set_cons_succ]
              refine wpAnyH_done (by kernel_rfl) ?_ _
              go_wp2_with fail
              go_roundw
              case rel => exact ⟨i + 1, by go_num, by omega, hbw.trans ((hbx.trans (hHeld2.1.mono hbx.size)).mono hbw.size), HG, hid (fun _ => by rw [HN.out]; exact HE.out)⟩
              case measure => simp [intOf]; omega
            · have h1 : 0 < i := by omega
              have hpb2 := hpb h1
              have zp : IntKind.i64.wrap (p + 1) = p + 1 := by rw [IntKind.wrap_i64]; omega
              have zi : IntKind.i64.wrap ((i : Int) - 1) = ((i - 1 : Nat) : Int) := by rw [IntKind.wrap_i64]; omega
              have zi2 : (i : Int) - 1 = ((i - 1 : Nat) : Int) := by omega
              have zi3 : IntKind.i64.wrap ((i - 1 : Nat) : Int) = ((i - 1 : Nat) : Int) := by rw [IntKind.wrap_i64]; omega
              have h1i : (0 : Int) < (i : Int) := by omega
              have hil : i - 1 < l.length := by omega
              by_cases hs : x.seq = p + 1
              · have HG : Hid (batC none l = batC (prevS l (i + 1)) (l.drop (i + 1))) := hid (by rw [HX.out, HD.out, HPS.out, HPP.out, if_neg h0]; simp [batC, hr, hs])
                have hq : (x.seq != p + 1) = false := by simp [hs]
                have HE := hid hr
                clear hr HX HD hs h0
                refine wp_region_held_drew (S := fun w' => Below W4.heap.size W4 w' ∧ w'.cell? ⟨wr.heap.size, 0, none⟩ = some (.int .i64 x.seq) ∧ w'.cell? ⟨wr.heap.size, 1, none⟩ = some (.int .i64 x.time) ∧ w'.cell? ⟨wr.heap.size, 2, none⟩ = some (.slice A' x.labs.length c') ∧ w'.cell? ⟨wr.heap.size, 3, none⟩ = some (.string ⟨x.line.toArray⟩) ∧ (0 < i → w'.cell? ⟨b, off + (i - 1) * 4, none⟩ = some (.int .i64 p))) (by kernel_rfl) (mkS _ (Below.refl _ _).drew) (fun hHeld => ?_)
                refine takeAt (i := 0) (d := 20) (v := entV x A' c') rfl rfl (by kernel_rfl) (by kernel_rfl) (by kernel_rfl) (fun _ _ _ h => h) (Or.inl ⟨by rfl, fun w hSw => by obtain ⟨hS0, hS1, hS2, hS3, hS4, hS5⟩ := hSw; go_simp; rfl⟩) hHeld ?_
                simp only [List.setIfInBounds_toArray, List.set_cons_zero, List.set_cons_succ]
                refine wpAnyH_ready (rs := [1]) (by kernel_rfl) (by simp) ?_
                refine AllReadyH.cons (o := { dst := some 21, op := Go.Op.call { callee := Go.Callee.value (Go.Operand.func 20), args := #[Go.Operand.tmp 20], argTypes := #[24] }, type := 4, pos := "batch.go:15", after := #[{ on := 0, ground := Go.Ground.data }], guard := none }) rfl (fun K hK => ?_) AllReadyH.nil
                rw [if_pos (by rfl)]
                go_simp
                refine (hRt _ rE TE).mono ?_
                rintro e w2 ⟨rfl, b2⟩
                refine hK.out _ _ (mkS _ (below_of_drewN (n := 1) b2)) (fun hHeld2 => ?_)
                clear hK K
                try simp only [Act.put, List.setIfInBounds_toArray, List.set_cons_zero, List.set_cons_succ]
                refine takeAt (i := 2) (d := 22) (v := .bool false) rfl rfl (by kernel_rfl) (by kernel_rfl) (by kernel_rfl) (fun _ _ _ h => h) (Or.inl ⟨by rfl, fun w hSw => by obtain ⟨hS0, hS1, hS2, hS3, hS4, hS5⟩ := hSw; go_simp⟩) hHeld2 ?_
                simp only [List.setIfInBounds_toArray, List.set_cons_zero, List.set_cons_succ]
                refine takeAt (i := 3) (d := 23) (v := .bool false) rfl rfl (by kernel_rfl) (by kernel_rfl) (by kernel_rfl) (fun _ _ _ h => h) (Or.inl ⟨by rfl, fun w hSw => by obtain ⟨hS0, hS1, hS2, hS3, hS4, hS5⟩ := hSw; go_simp⟩) hHeld2 ?_
                simp only [List.setIfInBounds_toArray, List.set_cons_zero, List.set_cons_succ]
                refine takeAt (i := 4) (d := 24) (v := .int .i64 i) rfl rfl (by kernel_rfl) (by kernel_rfl) (by kernel_rfl) (fun _ _ _ h => h) (Or.inl ⟨by rfl, fun w hSw => by obtain ⟨hS0, hS1, hS2, hS3, hS4, hS5⟩ := hSw; go_simp⟩) hHeld2 ?_
                simp only [List.setIfInBounds_toArray, List.set_cons_zero, List.set_cons_succ]
                refine takeAt (i := 5) (d := 25) (v := .bool true) rfl rfl (by kernel_rfl) (by kernel_rfl) (by kernel_rfl) (fun _ _ _ h => h) (Or.inl ⟨by rfl, fun w hSw => by obtain ⟨hS0, hS1, hS2, hS3, hS4, hS5⟩ := hSw; go_simp⟩) hHeld2 ?_
                simp only [List.setIfInBounds_toArray, List.set_cons_zero, List.set_cons_succ]
                refine takeAt (i := 6) (d := 26) (v := .bool true) rfl rfl (by kernel_rfl) (by kernel_rfl) (by kernel_rfl) (fun _ _ _ h => h) (Or.inl ⟨by rfl, fun w hSw => by obtain ⟨hS0, hS1, hS2, hS3, hS4, hS5⟩ := hSw; go_simp⟩) hHeld2 ?_
                simp only [List.setIfInBounds_toArray, List.set_cons_zero, List.set_cons_succ]
                refine takeAt (i := 7) (d := 27) (v := .pointer (some ⟨wr.heap.size, 0, none⟩)) rfl rfl (by kernel_rfl) (by kernel_rfl) (by kernel_rfl) (fun _ _ _ h => h) (Or.inl ⟨by rfl, fun w hSw => by obtain ⟨hS0, hS1, hS2, hS3, hS4, hS5⟩ := hSw; go_simp⟩) hHeld2 ?_
                simp only [List.setIfInBounds_toArray, List.set_cons_zero, List.set_cons_succ]
                refine takeAt (i := 8) (d := 28) (v := .int .i64 x.seq) rfl rfl (by kernel_rfl) (by kernel_rfl) (by kernel_rfl) (fun _ _ _ h => h) (Or.inl ⟨by rfl, fun w hSw => by obtain ⟨hS0, hS1, hS2, hS3, hS4, hS5⟩ := hSw; go_simp⟩) hHeld2 ?_
                simp only [List.setIfInBounds_toArray, List.set_cons_zero, List.set_cons_succ]
                refine takeAt (i := 9) (d := 29) (v := .slice (some ⟨b, off, none⟩) l.length c) rfl rfl (by kernel_rfl) (by kernel_rfl) (by kernel_rfl) (fun _ _ _ h => h) (Or.inl ⟨by rfl, fun w hSw => by obtain ⟨hS0, hS1, hS2, hS3, hS4, hS5⟩ := hSw; go_simp⟩) hHeld2 ?_
                simp only [List.setIfInBounds_toArray, List.set_cons_zero, List.set_cons_succ]
                refine takeAt (i := 10) (d := 30) (v := .int .i64 i) rfl rfl (by kernel_rfl) (by kernel_rfl) (by kernel_rfl) (fun _ _ _ h => h) (Or.inl ⟨by rfl, fun w hSw => by obtain ⟨hS0, hS1, hS2, hS3, hS4, hS5⟩ := hSw; go_simp⟩) hHeld2 ?_
                simp only [List.setIfInBounds_toArray, List.set_cons_zero, List.set_cons_succ]
                refine takeAt (i := 11) (d := 31) (v := .int .i64 ((i - 1 : Nat) : Int)) rfl rfl (by kernel_rfl) (by kernel_rfl) (by kernel_rfl) (fun _ _ _ h => h) (Or.inl ⟨by rfl, fun w hSw => by obtain ⟨hS0, hS1, hS2, hS3, hS4, hS5⟩ := hSw; go_simp; first | done | exact zi | exact zi3 | omega⟩) hHeld2 ?_
                simp only [List.setIfInBounds_toArray, List.set_cons_zero, List.set_cons_succ]
                refine takeAt (i := 12) (d := 32) (v := .pointer (some ⟨b, off + (i - 1) * 4, none⟩)) rfl rfl (by kernel_rfl) (by kernel_rfl) (by kernel_rfl) (fun _ _ _ h => h) (Or.inl ⟨by rfl, fun w hSw => by obtain ⟨hS0, hS1, hS2, hS3, hS4, hS5⟩ := hSw; go_simp⟩) hHeld2 ?_
                simp only [List.setIfInBounds_toArray, List.set_cons_zero, List.set_cons_succ]
                refine takeAt (i := 13) (d := 33) (v := .pointer (some ⟨b, off + (i - 1) * 4, none⟩)) rfl rfl (by kernel_rfl) (by kernel_rfl) (by kernel_rfl) (fun _ _ _ h => h) (Or.inl ⟨by rfl, fun w hSw => by obtain ⟨hS0, hS1, hS2, hS3, hS4, hS5⟩ := hSw; go_simp⟩) hHeld2 ?_
                simp only [List.setIfInBounds_toArray, List.set_cons_zero, List.set_cons_succ]
                refine takeAt (i := 14) (d := 34) (v := .int .i64 p) rfl rfl (by kernel_rfl) (by kernel_rfl) (by kernel_rfl) (fun _ _ _ h => h) (Or.inl ⟨by rfl, fun w hSw => by obtain ⟨hS0, hS1, hS2, hS3, hS4, hS5⟩ := hSw; have hS6 := hS5 h1; go_simp⟩) hHeld2 ?_
                simp only [List.setIfInBounds_toArray, List.set_cons_zero, List.set_cons_succ]
                refine takeAt (i := 15) (d := 35) (v := .int .i64 (p + 1)) rfl rfl (by kernel_rfl) (by kernel_rfl) (by kernel_rfl) (fun _ _ _ h => h) (Or.inl ⟨by rfl, fun w hSw => by obtain ⟨hS0, hS1, hS2, hS3, hS4, hS5⟩ := hSw; go_simp; first | done | exact zp | (rw [zp])⟩) hHeld2 ?_
                simp only [List.setIfInBounds_toArray, List.set_cons_zero, List.set_cons_succ]
                refine takeAt (i := 16) (d := 36) (v := .bool false) rfl rfl (by kernel_rfl) (by kernel_rfl) (by kernel_rfl) (fun _ _ _ h => h) (Or.inl ⟨by rfl, fun w hSw => by obtain ⟨hS0, hS1, hS2, hS3, hS4, hS5⟩ := hSw; go_simp; first | done | exact hq | simp [hq]⟩) hHeld2 ?_
                simp only [List.setIfInBounds_toArray, List.set_cons_zero, List.set_cons_succ]
                refine takeAt (i := 17) (d := 37) (v := .bool false) rfl rfl (by kernel_rfl) (by kernel_rfl) (by kernel_rfl) (fun _ _ _ h => h) (Or.inl ⟨by rfl, fun w hSw => by obtain ⟨hS0, hS1, hS2, hS3, hS4, hS5⟩ := hSw; go_simp⟩) hHeld2 ?_
                simp only [List.setIfInBounds_toArray, List.set_cons_zero, List.set_cons_succ]
                refine takeAt (i := 18) (d := 38) (v := .bool false) rfl rfl (by kernel_rfl) (by kernel_rfl) (by kernel_rfl) (fun _ _ _ h => h) (Or.inl ⟨by rfl, fun w hSw => by obtain ⟨hS0, hS1, hS2, hS3, hS4, hS5⟩ := hSw; go_simp⟩) hHeld2 ?_
                simp only [List.setIfInBounds_toArray, List.set_cons_zero, List.set_cons_succ]
                refine wpAnyH_done (by kernel_rfl) ?_ _
                go_wp2_with fail
                go_roundw
                case rel => exact ⟨i + 1, by go_num, by omega, hbw.trans ((hbx.trans (hHeld2.1.mono hbx.size)).mono hbw.size), HG, hid (fun _ => by rw [HN.out]; exact HE.out)⟩
                case measure => simp [intOf]; omega
              · have HF : Hid (batR l = false) := hid (by rw [HR.out, HX.out, HD.out, HPP.out, if_neg h0]; simp [batC, hs])
                have hq : (x.seq != p + 1) = true := by simp [hs]
                clear hr HX HR HD hs h0
                refine wp_region_held_drew (S := fun w' => Below W4.heap.size W4 w' ∧ w'.cell? ⟨wr.heap.size, 0, none⟩ = some (.int .i64 x.seq) ∧ w'.cell? ⟨wr.heap.size, 1, none⟩ = some (.int .i64 x.time) ∧ w'.cell? ⟨wr.heap.size, 2, none⟩ = some (.slice A' x.labs.length c') ∧ w'.cell? ⟨wr.heap.size, 3, none⟩ = some (.string ⟨x.line.toArray⟩) ∧ (0 < i → w'.cell? ⟨b, off + (i - 1) * 4, none⟩ = some (.int .i64 p))) (by kernel_rfl) (mkS _ (Below.refl _ _).drew) (fun hHeld => ?_)
                refine takeAt (i := 0) (d := 20) (v := entV x A' c') rfl rfl (by kernel_rfl) (by kernel_rfl) (by kernel_rfl) (fun _ _ _ h => h) (Or.inl ⟨by rfl, fun w hSw => by obtain ⟨hS0, hS1, hS2, hS3, hS4, hS5⟩ := hSw; go_simp; rfl⟩) hHeld ?_
                simp only [List.setIfInBounds_toArray, List.set_cons_zero, List.set_cons_succ]
                refine wpAnyH_ready (rs := [1]) (by kernel_rfl) (by simp) ?_
                refine AllReadyH.cons (o := { dst := some 21, op := Go.Op.call { callee := Go.Callee.value (Go.Operand.func 20), args := #[Go.Operand.tmp 20], argTypes := #[24] }, type := 4, pos := "batch.go:15", after := #[{ on := 0, ground := Go.Ground.data }], guard := none }) rfl (fun K hK => ?_) AllReadyH.nil
                rw [if_pos (by rfl)]
                go_simp
                refine (hRt _ rE TE).mono ?_
                rintro e w2 ⟨rfl, b2⟩
                refine hK.out _ _ (mkS _ (below_of_drewN (n := 1) b2)) (fun hHeld2 => ?_)
                clear hK K
                try simp only [Act.put, List.setIfInBounds_toArray, List.set_cons_zero, List.set_cons_succ]
                refine takeAt (i := 2) (d := 22) (v := .bool false) rfl rfl (by kernel_rfl) (by kernel_rfl) (by kernel_rfl) (fun _ _ _ h => h) (Or.inl ⟨by rfl, fun w hSw => by obtain ⟨hS0, hS1, hS2, hS3, hS4, hS5⟩ := hSw; go_simp⟩) hHeld2 ?_
                simp only [List.setIfInBounds_toArray, List.set_cons_zero, List.set_cons_succ]
                refine takeAt (i := 3) (d := 23) (v := .bool false) rfl rfl (by kernel_rfl) (by kernel_rfl) (by kernel_rfl) (fun _ _ _ h => h) (Or.inl ⟨by rfl, fun w hSw => by obtain ⟨hS0, hS1, hS2, hS3, hS4, hS5⟩ := hSw; go_simp⟩) hHeld2 ?_
                simp only [List.setIfInBounds_toArray, List.set_cons_zero, List.set_cons_succ]
                refine takeAt (i := 4) (d := 24) (v := .int .i64 i) rfl rfl (by kernel_rfl) (by kernel_rfl) (by kernel_rfl) (fun _ _ _ h => h) (Or.inl ⟨by rfl, fun w hSw => by obtain ⟨hS0, hS1, hS2, hS3, hS4, hS5⟩ := hSw; go_simp⟩) hHeld2 ?_
                simp only [List.setIfInBounds_toArray, List.set_cons_zero, List.set_cons_succ]
                refine takeAt (i := 5) (d := 25) (v := .bool true) rfl rfl (by kernel_rfl) (by kernel_rfl) (by kernel_rfl) (fun _ _ _ h => h) (Or.inl ⟨by rfl, fun w hSw => by obtain ⟨hS0, hS1, hS2, hS3, hS4, hS5⟩ := hSw; go_simp⟩) hHeld2 ?_
                simp only [List.setIfInBounds_toArray, List.set_cons_zero, List.set_cons_succ]
                refine takeAt (i := 6) (d := 26) (v := .bool true) rfl rfl (by kernel_rfl) (by kernel_rfl) (by kernel_rfl) (fun _ _ _ h => h) (Or.inl ⟨by rfl, fun w hSw => by obtain ⟨hS0, hS1, hS2, hS3, hS4, hS5⟩ := hSw; go_simp⟩) hHeld2 ?_
                simp only [List.setIfInBounds_toArray, List.set_cons_zero, List.set_cons_succ]
                refine takeAt (i := 7) (d := 27) (v := .pointer (some ⟨wr.heap.size, 0, none⟩)) rfl rfl (by kernel_rfl) (by kernel_rfl) (by kernel_rfl) (fun _ _ _ h => h) (Or.inl ⟨by rfl, fun w hSw => by obtain ⟨hS0, hS1, hS2, hS3, hS4, hS5⟩ := hSw; go_simp⟩) hHeld2 ?_
                simp only [List.setIfInBounds_toArray, List.set_cons_zero, List.set_cons_succ]
                refine takeAt (i := 8) (d := 28) (v := .int .i64 x.seq) rfl rfl (by kernel_rfl) (by kernel_rfl) (by kernel_rfl) (fun _ _ _ h => h) (Or.inl ⟨by rfl, fun w hSw => by obtain ⟨hS0, hS1, hS2, hS3, hS4, hS5⟩ := hSw; go_simp⟩) hHeld2 ?_
                simp only [List.setIfInBounds_toArray, List.set_cons_zero, List.set_cons_succ]
                refine takeAt (i := 9) (d := 29) (v := .slice (some ⟨b, off, none⟩) l.length c) rfl rfl (by kernel_rfl) (by kernel_rfl) (by kernel_rfl) (fun _ _ _ h => h) (Or.inl ⟨by rfl, fun w hSw => by obtain ⟨hS0, hS1, hS2, hS3, hS4, hS5⟩ := hSw; go_simp⟩) hHeld2 ?_
                simp only [List.setIfInBounds_toArray, List.set_cons_zero, List.set_cons_succ]
                refine takeAt (i := 10) (d := 30) (v := .int .i64 i) rfl rfl (by kernel_rfl) (by kernel_rfl) (by kernel_rfl) (fun _ _ _ h => h) (Or.inl ⟨by rfl, fun w hSw => by obtain ⟨hS0, hS1, hS2, hS3, hS4, hS5⟩ := hSw; go_simp⟩) hHeld2 ?_
                simp only [List.setIfInBounds_toArray, List.set_cons_zero, List.set_cons_succ]
                refine takeAt (i := 11) (d := 31) (v := .int .i64 ((i - 1 : Nat) : Int)) rfl rfl (by kernel_rfl) (by kernel_rfl) (by kernel_rfl) (fun _ _ _ h => h) (Or.inl ⟨by rfl, fun w hSw => by obtain ⟨hS0, hS1, hS2, hS3, hS4, hS5⟩ := hSw; go_simp; first | done | exact zi | exact zi3 | omega⟩) hHeld2 ?_
                simp only [List.setIfInBounds_toArray, List.set_cons_zero, List.set_cons_succ]
                refine takeAt (i := 12) (d := 32) (v := .pointer (some ⟨b, off + (i - 1) * 4, none⟩)) rfl rfl (by kernel_rfl) (by kernel_rfl) (by kernel_rfl) (fun _ _ _ h => h) (Or.inl ⟨by rfl, fun w hSw => by obtain ⟨hS0, hS1, hS2, hS3, hS4, hS5⟩ := hSw; go_simp⟩) hHeld2 ?_
                simp only [List.setIfInBounds_toArray, List.set_cons_zero, List.set_cons_succ]
                refine takeAt (i := 13) (d := 33) (v := .pointer (some ⟨b, off + (i - 1) * 4, none⟩)) rfl rfl (by kernel_rfl) (by kernel_rfl) (by kernel_rfl) (fun _ _ _ h => h) (Or.inl ⟨by rfl, fun w hSw => by obtain ⟨hS0, hS1, hS2, hS3, hS4, hS5⟩ := hSw; go_simp⟩) hHeld2 ?_
                simp only [List.setIfInBounds_toArray, List.set_cons_zero, List.set_cons_succ]
                refine takeAt (i := 14) (d := 34) (v := .int .i64 p) rfl rfl (by kernel_rfl) (by kernel_rfl) (by kernel_rfl) (fun _ _ _ h => h) (Or.inl ⟨by rfl, fun w hSw => by obtain ⟨hS0, hS1, hS2, hS3, hS4, hS5⟩ := hSw; have hS6 := hS5 h1; go_simp⟩) hHeld2 ?_
                simp only [List.setIfInBounds_toArray, List.set_cons_zero, List.set_cons_succ]
                refine takeAt (i := 15) (d := 35) (v := .int .i64 (p + 1)) rfl rfl (by kernel_rfl) (by kernel_rfl) (by kernel_rfl) (fun _ _ _ h => h) (Or.inl ⟨by rfl, fun w hSw => by obtain ⟨hS0, hS1, hS2, hS3, hS4, hS5⟩ := hSw; go_simp; first | done | exact zp | (rw [zp])⟩) hHeld2 ?_
                simp only [List.setIfInBounds_toArray, List.set_cons_zero, List.set_cons_succ]
                refine takeAt (i := 16) (d := 36) (v := .bool true) rfl rfl (by kernel_rfl) (by kernel_rfl) (by kernel_rfl) (fun _ _ _ h => h) (Or.inl ⟨by rfl, fun w hSw => by obtain ⟨hS0, hS1, hS2, hS3, hS4, hS5⟩ := hSw; go_simp; first | done | exact hq | simp [hq]⟩) hHeld2 ?_
                simp only [List.setIfInBounds_toArray, List.set_cons_zero, List.set_cons_succ]
                refine takeAt (i := 17) (d := 37) (v := .bool true) rfl rfl (by kernel_rfl) (by kernel_rfl) (by kernel_rfl) (fun _ _ _ h => h) (Or.inl ⟨by rfl, fun w hSw => by obtain ⟨hS0, hS1, hS2, hS3, hS4, hS5⟩ := hSw; go_simp⟩) hHeld2 ?_
                simp only [List.setIfInBounds_toArray, List.set_cons_zero, List.set_cons_succ]
                refine takeAt (i := 18) (d := 38) (v := .bool true) rfl rfl (by kernel_rfl) (by kernel_rfl) (by kernel_rfl) (fun _ _ _ h => h) (Or.inl ⟨by rfl, fun w hSw => by obtain ⟨hS0, hS1, hS2, hS3, hS4, hS5⟩ := hSw; go_simp⟩) hHeld2 ?_
                simp only [List.setIfInBounds_toArray, List.set_cons_zero, List.set_cons_succ]
                refine wpAnyH_done (by kernel_rfl) ?_ _
                go_wp2_with fail
                go_ret
                exact ⟨by rw [HF.out]; rfl, hbw.trans ((hbx.trans (hHeld2.1.mono hbx.size)).mono hbw.size)⟩
        · have HT : Hid (batR l = true) := hid (by rw [HR.out, HX.out, List.drop_eq_nil_of_le (by omega)]; rfl)
          clear hcell HX HR HP
          go_wp2
          go_ret
          exact ⟨by rw [HT.out]; rfl, hbw⟩
    · have HR : Hid (batR l = false) := hid (by unfold batR; rw [decide_eq_false (by omega), Bool.false_and])
      have h1' : ¬ (l.length : Int) < 1 := by omega
      have h16' : (16 : Int) < l.length := by omega
      clear hcell hT hz
      go_enter Tryd.func78, Tryd.ntmps78
      go_wp2
      go_ret
      exact ⟨by rw [HR.out]; rfl, Below.refl _ _⟩
  · have HR : Hid (batR l = false) := hid (by unfold batR; rw [decide_eq_false (by omega), Bool.false_and])
    have h1' : (l.length : Int) < 1 := by omega
    clear hcell hT hz
    go_enter Tryd.func78, Tryd.ntmps78
    go_wp2
    go_ret
    exact ⟨by rw [HR.out]; rfl, Below.refl _ _⟩
end Go.Proofs.YtffpphigmdehfaaDoor
