/-
  What the reference's Pack tells, where the rules are fit and the list is fine. Conditions: the list is no longer than 2^40; a number is one that an int holds.
-/
import Derived.Test.YtoomhfjmcdbgkaaNrp
namespace Go.Icz
open Go.RowKit
theorem far_row {w w' : World} {g b : Nat} {cs : Array Value} {t : TypeId} (h : w.grownBy w' (some g)) (hr : w.heap[b]? = some (.cells cs t (0, 0))) (hne : b ≠ g) : w'.heap[b]? = some (.cells cs t (0, 0)) :=
  (Tch.grown h (S := (· = g)) (fun k e => by injection e with e; exact e.symm)).row hr hne
end Go.Icz
namespace Go.Proofs.Ytoomhfjmcdbgkaa
open Go.RowKit Go.Icz
set_option maxRecDepth 100000 in
theorem run_topR {A : Option Addr} {n c hi : Nat} (h2 : hi ≤ c) (wx : World) : (Instr.slice 22 (.slice A n c) none (some (.int .i64 (hi : Int))) none).run Try.prog wx = .ok (sliced A 0 hi c 8) wx := by
  have := run_slice_h (P := Try.prog) (w := wx) 22 A n c Try.underlying22 .i64 (hi : Int) (by omega) (by omega)
  rw [this]
  have hz : (sizeOf (Try.prog.elem 22)).run Try.prog wx = .ok 8 wx := by go_simp
  rw [hz]
  simp [Result.andThen]
set_option maxRecDepth 100000 in
theorem run_fromR {A : Option Addr} {n c s : Nat} (h : s ≤ n) (wx : World) : (Instr.slice 22 (.slice A n c) (some (.int .i64 (s : Int))) none none).run Try.prog wx = .ok (sliced A s n c 8) wx := by
  have := run_slice_l (P := Try.prog) (w := wx) 22 A n c Try.underlying22 .i64 (s : Int) (by omega) (by omega)
  rw [this]
  have hz : (sizeOf (Try.prog.elem 22)).run Try.prog wx = .ok 8 wx := by go_simp
  rw [hz]
  simp [Result.andThen]
set_option maxRecDepth 100000 in
set_option maxHeartbeats 8000000 in
theorem RPack_yes (v : Value) (l : List MV) (fan : Nat) (mb keep now : Int) (w : World) (hR : KRm.Rd w v l) (hlen : l.length ≤ 1099511627776) (hn : now ≤ 9223372036854775807) (hpk : packsM fan mb keep = true) (hfi : fineM l = true) :
    Calls Try.prog 33 #[v, rulesV fan mb keep, .int .i64 now] w fun e w' => ∃ a, PackOf l fan mb keep now a ∧ IntsOut w (idsM a) e w' := by
  have b1 : Below w.heap.size w (w.alloc (.cells #[.int .i64 (fan : Int), .int .i64 mb, .int .i64 keep] 55)) := (Below.refl _ w).alloc (Nat.le_refl _) _
  have r1 := box_row w #[.int .i64 (fan : Int), .int .i64 mb, .int .i64 keep] 55
  have hF := RFine_is v l (w.alloc (.cells #[.int .i64 (fan : Int), .int .i64 mb, .int .i64 keep] 55)) (hR.below b1) hlen
  rw [hfi] at hF
  have HFN := hid (fine_iff.1 hfi)
  have HPK := hid hpk
  have HFI := hid hfi
  have hpk2 := hpk
  unfold packsM at hpk2
  rw [decide_eq_true_eq] at hpk2
  obtain ⟨hf1, hf2, hmb, hkp⟩ := hpk2
  obtain ⟨A, c, rfl, _⟩ := hR.form
  have ROW := hid (met_row (K := KRm) rfl rfl (hR.below b1))
  clear hR hpk hfi
  have KEEP : Hid (∀ wr, Below (w.alloc (.cells #[.int .i64 (fan : Int), .int .i64 mb, .int .i64 keep] 55)).heap.size (w.alloc (.cells #[.int .i64 (fan : Int), .int .i64 mb, .int .i64 keep] 55)) wr → wr.cell? ⟨w.heap.size, 0, none⟩ = some (.int .i64 (fan : Int)) ∧ wr.cell? ⟨w.heap.size, 1, none⟩ = some (.int .i64 mb) ∧ wr.cell? ⟨w.heap.size, 2, none⟩ = some (.int .i64 keep)) := hid (fun wr hw => by
    have h := (Tch.of_below hw (S := fun _ => False)).row r1 (fun h => h)
    exact ⟨held_cell h rfl, held_cell h rfl, held_cell h rfl⟩)
  unfold rulesV
  have hc2 : ¬ ((fan : Int) < 2) := by omega
  have hc16 : ¬ (16 < (fan : Int)) := by omega
  have hcm : ¬ (mb < 1) := by omega
  have hck : ¬ (keep < 1) := by omega
  go_enter Try.func33, Try.ntmps33
  go_wp2_with (go_at_call 14; refine hF.mono ?_; rintro e w3 ⟨rfl, b3⟩)
  generalize w.alloc (.cells #[.int .i64 (fan : Int), .int .i64 mb, .int .i64 keep] 55) = W1 at *
  have bwr1 := b1
  clear r1 hF hc2 hc16 hcm hck
  go_loopw [7, 8] (fun sv iv wr => ∃ (i : Nat) (S : List MV), iv = .int .i64 i ∧ i ≤ l.length ∧ S.length ≤ i ∧ Hid (S.Perm ((l.take i).filter (fun x => !overM keep now x)) ∧ SrtM S) ∧ KRm.Own wr w.heap.size sv S ∧ Below W1.heap.size W1 wr) (fun _ iv _ => l.length - (intOf iv).toNat)
  case atStart => exact ⟨0, [], rfl, by omega, by simp, hid ⟨by simp, by unfold SrtM; exact List.Pairwise.nil⟩, Kd.Own.nil _ _, b3⟩
  case round =>
    obtain ⟨i, S, rfl, hi, hSl, HS, ho, hbw⟩ := hrel
    obtain ⟨AO, co, rfl, hco⟩ := ho.rd.form
    by_cases hLt : i < l.length
    · obtain ⟨b, off, hA, hb, hc⟩ := ROW.out i hLt
      have HA := hid hA
      subst hA
      have hil : (i : Int) < (l.length : Int) := by omega
      have hmost : 0 ≤ l[i].most := by have := rt_iff.1 (HFN.out.1 _ (List.getElem_mem hLt)); have h1 := this.le1; have h2 := this.mo1; omega
      have HTK : Hid ((overM keep now l[i] = true → (l.take (i + 1)).filter (fun x => !overM keep now x) = (l.take i).filter (fun x => !overM keep now x)) ∧ (overM keep now l[i] = false → (l.take (i + 1)).filter (fun x => !overM keep now x) = (l.take i).filter (fun x => !overM keep now x) ++ [l[i]])) := hid ⟨fun h => by rw [filter_take hLt, if_neg (by rw [h]; decide), List.append_nil], fun h => by rw [filter_take hLt, if_pos (by rw [h]; rfl)]⟩
      have HNE := hid (over_ids HFN.out hLt HS.out.1)
      have HL := hid hLt
      have hOv := fun w1 => Rover_is l[i] keep now w1 hmost hn
      have HC := hid hc
      clear hc hmost
      generalize l[i] = x at *
      generalize overM keep now x = ov at *
      unfold metaV at hOv
      have mkS : ∀ w', Below W1.heap.size W1 w' → Below W1.heap.size W1 w' ∧ w'.cell? ⟨b, off + i * 8, none⟩ = some (.int .i64 x.id) ∧ w'.cell? ⟨b, off + i * 8 + 1, none⟩ = some (.int .i64 x.least) ∧ w'.cell? ⟨b, off + i * 8 + 2, none⟩ = some (.int .i64 x.most) ∧ w'.cell? ⟨b, off + i * 8 + 3, none⟩ = some (.int .i64 x.first) ∧ w'.cell? ⟨b, off + i * 8 + 4, none⟩ = some (.int .i64 x.last) ∧ w'.cell? ⟨b, off + i * 8 + 5, none⟩ = some (.int .i64 x.rows) ∧ w'.cell? ⟨b, off + i * 8 + 6, none⟩ = some (.int .i64 x.bytes) ∧ w'.cell? ⟨b, off + i * 8 + 7, none⟩ = some (.int .i64 x.level) ∧ w'.cell? ⟨w.heap.size, 2, none⟩ = some (.int .i64 keep) := fun w' h => by
        have h1 := HC.out w' h
        exact ⟨h, (h1).c0, (h1).c1, (h1).c2, (h1).c3, (h1).c4, (h1).c5, (h1).c6, (h1).c7, (KEEP.out w' h).2.2⟩
      have hk := mkS wr.drew hbw.drew
      cases ov with
      | true =>
        have hoB := ho
        go_wp2_with fail
        go_region_held3 (fun w' => Below W1.heap.size W1 w' ∧ w'.cell? ⟨b, off + i * 8, none⟩ = some (.int .i64 x.id) ∧ w'.cell? ⟨b, off + i * 8 + 1, none⟩ = some (.int .i64 x.least) ∧ w'.cell? ⟨b, off + i * 8 + 2, none⟩ = some (.int .i64 x.most) ∧ w'.cell? ⟨b, off + i * 8 + 3, none⟩ = some (.int .i64 x.first) ∧ w'.cell? ⟨b, off + i * 8 + 4, none⟩ = some (.int .i64 x.last) ∧ w'.cell? ⟨b, off + i * 8 + 5, none⟩ = some (.int .i64 x.rows) ∧ w'.cell? ⟨b, off + i * 8 + 6, none⟩ = some (.int .i64 x.bytes) ∧ w'.cell? ⟨b, off + i * 8 + 7, none⟩ = some (.int .i64 x.level) ∧ w'.cell? ⟨w.heap.size, 2, none⟩ = some (.int .i64 keep)) (exact hk)
          (first | (go_at_call 52; refine (hOv _).mono ?_; rintro e w2 ⟨rfl, b2⟩; have ho2 := ho.below ((Below.refl wr.heap.size wr).drew.trans b2); have hk := mkS _ (hk.1.trans (b2.mono hk.1.size))))
        go_wp2_with fail
        go_roundw
        case rel => exact ⟨i + 1, S, by go_num, HL.out, by omega, hid ⟨by rw [HTK.out.1 (by simp)]; exact HS.out.1, HS.out.2⟩, ho2, hk.1⟩
        case measure => have := HL.out; simp [intOf]; omega
      | false =>
        go_wp2_with fail
        go_region_held3 (fun w' => Below W1.heap.size W1 w' ∧ w'.cell? ⟨b, off + i * 8, none⟩ = some (.int .i64 x.id) ∧ w'.cell? ⟨b, off + i * 8 + 1, none⟩ = some (.int .i64 x.least) ∧ w'.cell? ⟨b, off + i * 8 + 2, none⟩ = some (.int .i64 x.most) ∧ w'.cell? ⟨b, off + i * 8 + 3, none⟩ = some (.int .i64 x.first) ∧ w'.cell? ⟨b, off + i * 8 + 4, none⟩ = some (.int .i64 x.last) ∧ w'.cell? ⟨b, off + i * 8 + 5, none⟩ = some (.int .i64 x.rows) ∧ w'.cell? ⟨b, off + i * 8 + 6, none⟩ = some (.int .i64 x.bytes) ∧ w'.cell? ⟨b, off + i * 8 + 7, none⟩ = some (.int .i64 x.level) ∧ w'.cell? ⟨w.heap.size, 2, none⟩ = some (.int .i64 keep)) (exact hk)
          (first | (go_at_call 52; refine (hOv _).mono ?_; rintro e w2 ⟨rfl, b2⟩; have ho2 := ho.below ((Below.refl wr.heap.size wr).drew.trans b2); have hk := mkS _ (hk.1.trans (b2.mono hk.1.size))))
        go_wp2_with fail
        have hbo := hk.1
        have HO := hid ho2
        have FIN : Hid (∀ k, k ≤ S.length → (∀ j (hj : j < S.length), k ≤ j → ltM x S[j]) → (k = 0 ∨ ∃ (j : Nat) (hj : j < S.length), k = j + 1 ∧ ¬ ltM x S[j]) → (S.take k ++ [x] ++ S.drop k).Perm ((l.take (i + 1)).filter (fun x => !overM keep now x)) ∧ SrtM (S.take k ++ [x] ++ S.drop k)) := hid (fun k hk hhi hor => by
          refine ⟨by rw [HTK.out.2 (by simp)]; exact perm_insert k HS.out.1, srt_insert HS.out.2 hk ?_ hhi⟩
          rcases hor with rfl | ⟨j, hj, rfl, hnl⟩
          · intro j hj h; omega
          · exact srt_lo HS.out.2 hj (ltM_not hnl (fun e => HNE.out _ (List.getElem_mem hj) e.symm)))
        have ROWS := hid (fun wr (hw : Below w2.heap.size w2 wr) => met_row (K := KRm) rfl rfl (ho2.below hw).rd)
        clear ho ho2 hOv mkS HTK HS HNE hk b2 hbw
        go_loopw [9] (fun kv ws => ∃ k : Nat, kv = .int .i64 k ∧ k ≤ S.length ∧ Hid (∀ j (hj : j < S.length), k ≤ j → ltM x S[j]) ∧ Below w2.heap.size w2 ws) (fun kv _ => (intOf kv).toNat)
        case atStart => exact ⟨S.length, rfl, Nat.le_refl _, hid (fun j hj h => by omega), Below.refl _ _⟩
        case round =>
          obtain ⟨k, rfl, hk, HK1, hbs⟩ := hrel
          by_cases hk0 : k = 0
          · have k2f := hid (FIN.out k hk HK1.out (.inl hk0))
            have hkI : decide ((0 : Int) < (k : Int)) = false := decide_eq_false (by omega)
            have hkJ : decide (0 < k) = false := decide_eq_false (by omega)
            clear hk0
            go_wp2_with fail
            go_quiet (fail)
            go_wp2_with fail
            generalize hW5 : wr.drewN nq = w5 at *
            have bs5 : Below w2.heap.size w2 w5 := by rw [← hW5]; exact bdN hbs nq
            clear hW5
            have bwr := hbo.trans (bs5.mono hbo.size)
            have hwz : w.heap.size ≤ w5.heap.size := Nat.le_trans bwr1.size bwr.size
            have hOw := HO.out.below bs5
            obtain ⟨q0, q1, q2, q3, q4, q5, q6, q7⟩ := HC.out w5 bwr
            have hs1 : ∀ wx, (Instr.slice 22 (.slice AO S.length co) none (some (.int .i64 (k : Int))) none).run Try.prog wx = .ok (sliced AO 0 k co 8) wx := fun wx => run_topR (hi := k) (by omega) wx
            have hs2 : ∀ wx, (Instr.slice 22 (.slice AO S.length co) (some (.int .i64 (k : Int))) none none).run Try.prog wx = .ok (sliced AO k S.length co 8) wx := fun wx => run_fromR (s := k) (by omega) wx
            have r1 := hOw.rd.part 0 k (by omega) (by omega)
            have r2 := hOw.rd.part k S.length (by omega) (Nat.le_refl _)
            rw [Nat.sub_zero, List.drop_zero] at r1
            rw [List.take_of_length_le (by rw [List.length_drop]; omega)] at r2
            change KRm.Rd w5 (sliced AO 0 k co 8) _ at r1
            change KRm.Rd w5 (sliced AO k S.length co 8) _ at r2
            generalize sliced AO 0 k co 8 = v1 at *
            generalize sliced AO k S.length co 8 = v2 at *
            have ht1 : (S.take k).length ≤ S.length := by rw [List.length_take]; omega
            have ht2 : (S.drop k).length ≤ S.length := by rw [List.length_drop]; omega
            have ht3 : Hid ((S.take k ++ [x] ++ S.drop k).length = S.length + 1) := hid (by simp only [List.length_append, List.length_take, List.length_drop, List.length_singleton]; omega)
            generalize S.take k = T1 at *
            generalize S.drop k = T2 at *
            have hSz : S.length ≤ 1099511627776 := by omega
            have d5 : Below w5.heap.size w5 w5.drew := (Below.refl _ _).drew
            have dA : Below w5.heap.size w5 (w5.drew.alloc (.cells #[] 32)) := d5.alloc (Nat.le_refl _) _
            have dX : Below w5.heap.size w5 (w5.drew.alloc (.cells #[.int .i64 x.id, .int .i64 x.least, .int .i64 x.most, .int .i64 x.first, .int .i64 x.last, .int .i64 x.rows, .int .i64 x.bytes, .int .i64 x.level] 32)) := d5.alloc (Nat.le_refl _) _
            have dB : Below w5.heap.size w5 ((w5.drew.alloc (.cells #[] 32)).alloc (.cells #[.int .i64 x.id, .int .i64 x.least, .int .i64 x.most, .int .i64 x.first, .int .i64 x.last, .int .i64 x.rows, .int .i64 x.bytes, .int .i64 x.level] 32)) := dA.alloc dA.size _
            have dC : Below w5.heap.size w5 ((w5.drew.alloc (.cells #[.int .i64 x.id, .int .i64 x.least, .int .i64 x.most, .int .i64 x.first, .int .i64 x.last, .int .i64 x.rows, .int .i64 x.bytes, .int .i64 x.level] 32)).alloc (.cells #[] 32)) := dX.alloc dX.size _
            have mA := Kd.own_empty (K := KRm) (heap_alloc_new w5.drew (.cells #[] 32)) (B := w5.heap.size) (Nat.le_refl _)
            have mB := Kd.own_empty (K := KRm) (row_alloc (heap_alloc_new w5.drew (.cells #[] 32)) (.cells #[.int .i64 x.id, .int .i64 x.least, .int .i64 x.most, .int .i64 x.first, .int .i64 x.last, .int .i64 x.rows, .int .i64 x.bytes, .int .i64 x.level] 32)) (B := w5.heap.size) (Nat.le_refl _)
            have hC0 := heap_alloc_new (w5.drew.alloc (.cells #[.int .i64 x.id, .int .i64 x.least, .int .i64 x.most, .int .i64 x.first, .int .i64 x.last, .int .i64 x.rows, .int .i64 x.bytes, .int .i64 x.level] 32)) (.cells #[] 32)
            rw [World.size_alloc] at hC0
            have mC := Kd.own_empty (K := KRm) (g := w5.heap.size + 1) hC0 (B := w5.heap.size) (Nat.le_succ _)
            have xB : (((w5.drew.alloc (.cells #[] 32)).alloc (.cells #[.int .i64 x.id, .int .i64 x.least, .int .i64 x.most, .int .i64 x.first, .int .i64 x.last, .int .i64 x.rows, .int .i64 x.bytes, .int .i64 x.level] 32))).heap[w5.heap.size + 1]? = some (.cells #[.int .i64 x.id, .int .i64 x.least, .int .i64 x.most, .int .i64 x.first, .int .i64 x.last, .int .i64 x.rows, .int .i64 x.bytes, .int .i64 x.level] 32 (0, 0)) := by
              have := heap_alloc_new (w5.drew.alloc (.cells #[] 32)) (.cells #[.int .i64 x.id, .int .i64 x.least, .int .i64 x.most, .int .i64 x.first, .int .i64 x.last, .int .i64 x.rows, .int .i64 x.bytes, .int .i64 x.level] 32)
              rwa [World.size_alloc] at this
            have xC := row_alloc (heap_alloc_new w5.drew (.cells #[.int .i64 x.id, .int .i64 x.least, .int .i64 x.most, .int .i64 x.first, .int .i64 x.last, .int .i64 x.rows, .int .i64 x.bytes, .int .i64 x.level] 32)) (.cells #[] 32)
            have hneB : w5.heap.size + 1 ≠ w5.heap.size := by omega
            have hneC : w5.heap.size ≠ w5.heap.size + 1 := by omega
            have mkQ : ∀ w', Below w5.heap.size w5 w' → Mc w' b (off + i * 8) x := fun w' h => HC.out w' (bwr.trans (h.mono bwr.size))
            have ⟨qA0, qA1, qA2, qA3, qA4, qA5, qA6, qA7⟩ := mkQ _ ((Below.refl _ w5).alloc (Nat.le_refl _) (.cells #[] 32))
            have hone : ∀ (W6 : World) (nx : Nat), W6.heap[nx]? = some (.cells #[.int .i64 x.id, .int .i64 x.least, .int .i64 x.most, .int .i64 x.first, .int .i64 x.last, .int .i64 x.rows, .int .i64 x.bytes, .int .i64 x.level] 32 (0, 0)) → KRm.Rd W6 (.slice (some ⟨nx, 0, none⟩) 1 1) [x] := fun W6 nx hx => ⟨_, 1, rfl, by simp, fun _ => ⟨nx, 0, rfl, row_lt hx, fun j u hu => by
              have e : KRm.cells [x] = encM x := by simp [Kd.cells, KRm]
              rw [e] at hu
              rw [Nat.zero_add]
              exact held_cell hx (by simpa [encM] using hu)⟩⟩
            clear hOw
            go_region_law (first
              | (refine Kd.step_app (K := KRm) (w := w5.drew.alloc (.cells #[] 32)) rfl (.tmp 100) (.tmp 103) 22 rfl Try.underlying22 infoRm rfl w5.heap.size (.slice (some ⟨w5.heap.size, 0, none⟩) 0 0) v1 [] T1 rfl mA rfl (r1.below dA) (by simp; unfold maxLen; omega) (by simp; omega) dA.size ?_; intro v6 w6 o6 b6 g6; have c6 := dA.trans b6; have ⟨e0, e1, e2, e3, e4, e5, e6, e7⟩ := mkQ _ c6; have hO2 := o6.alloc (.cells #[.int .i64 x.id, .int .i64 x.least, .int .i64 x.most, .int .i64 x.first, .int .i64 x.last, .int .i64 x.rows, .int .i64 x.bytes, .int .i64 x.level] 32); have hX2 := hone _ _ (heap_alloc_new w6 (.cells #[.int .i64 x.id, .int .i64 x.least, .int .i64 x.most, .int .i64 x.first, .int .i64 x.last, .int .i64 x.rows, .int .i64 x.bytes, .int .i64 x.level] 32)); have c2 := c6.alloc c6.size (.cells #[.int .i64 x.id, .int .i64 x.least, .int .i64 x.most, .int .i64 x.first, .int .i64 x.last, .int .i64 x.rows, .int .i64 x.bytes, .int .i64 x.level] 32))
              | (refine Kd.step_app (K := KRm) (w := (w5.drew.alloc (.cells #[] 32)).alloc (.cells #[.int .i64 x.id, .int .i64 x.least, .int .i64 x.most, .int .i64 x.first, .int .i64 x.last, .int .i64 x.rows, .int .i64 x.bytes, .int .i64 x.level] 32)) rfl (.tmp 100) (.tmp 103) 22 rfl Try.underlying22 infoRm rfl w5.heap.size (.slice (some ⟨w5.heap.size, 0, none⟩) 0 0) v1 [] T1 rfl mB rfl (r1.below dB) (by simp; unfold maxLen; omega) (by simp; omega) dB.size ?_; intro v6 w6 o6 b6 g6; have c2 := dB.trans b6; have hO2 := o6; have hX2 := hone _ _ (far_row (g := w5.heap.size) g6 xB hneB))
              | (refine Kd.step_app (K := KRm) (w := (w5.drew.alloc (.cells #[.int .i64 x.id, .int .i64 x.least, .int .i64 x.most, .int .i64 x.first, .int .i64 x.last, .int .i64 x.rows, .int .i64 x.bytes, .int .i64 x.level] 32)).alloc (.cells #[] 32)) rfl (.tmp 100) (.tmp 103) 22 rfl Try.underlying22 infoRm rfl w5.heap.size (.slice (some ⟨w5.heap.size + 1, 0, none⟩) 0 0) v1 [] T1 rfl mC rfl (r1.below dC) (by simp; unfold maxLen; omega) (by simp; omega) dC.size ?_; intro v6 w6 o6 b6 g6; have c2 := dC.trans b6; have hO2 := o6; have hX2 := hone _ _ (far_row (g := w5.heap.size + 1) g6 xC hneC))
              | (refine Kd.step_app (K := KRm) rfl (.tmp 104) (.tmp 109) 22 rfl Try.underlying22 infoRm rfl w5.heap.size _ _ _ [x] rfl hO2 rfl hX2 (by simp; unfold maxLen; omega) (by simp; omega) c2.size ?_; intro v7 w7 o7 b7 g7; have c7 := c2.trans b7)
              | (refine Kd.step_app (K := KRm) rfl (.tmp 110) (.tmp 113) 22 rfl Try.underlying22 infoRm rfl w5.heap.size _ v2 _ T2 rfl o7 rfl (r2.below c7) (by simp; unfold maxLen; omega) (by simp; omega) c7.size ?_; intro v8 w8 o8 b8 g8; have c8 := c7.trans b8))
            all_goals (
              go_wp2_with fail
              go_roundw
              case rel => exact ⟨i + 1, T1 ++ [x] ++ T2, by go_num, HL.out, by rw [ht3.out]; omega, k2f, by have o9 := o8.mono hwz; rwa [List.nil_append] at o9, bwr.trans (c8.mono bwr.size)⟩
              case measure => have := HL.out; simp [intOf]; omega)
          · obtain ⟨j, hkj⟩ : ∃ j, k = j + 1 := ⟨k - 1, by omega⟩
            have hj : j < S.length := by omega
            obtain ⟨b2, off2, hAO, hb2, hc2⟩ := ROWS.out wr hbs j hj
            subst hAO
            obtain ⟨s0, s1, s2, s3, s4, s5, s6, s7⟩ := hc2 wr (Below.refl _ _)
            obtain ⟨q0, q1, q2, q3, q4, q5, q6, q7⟩ := HC.out wr (hbo.trans (hbs.mono hbo.size))
            have hkI : decide ((0 : Int) < (k : Int)) = true := decide_eq_true (by omega)
            have hkJ : decide (0 < k) = true := decide_eq_true (by omega)
            have hw1 : (k : Int) - 1 = (j : Int) := by omega
            have hw3 : IntKind.i64.wrap (j : Int) = (j : Int) := by rw [IntKind.wrap_i64]; omega
            have hjl : (j : Int) < (S.length : Int) := by omega
            have NX : Hid (ltM x S[j] → ∀ j' (hj' : j' < S.length), j ≤ j' → ltM x S[j']) := hid (fun h j' hj' hle => by
              by_cases e : j' = j
              · subst e; exact h
              · exact HK1.out j' hj' (by omega))
            have EX2 : Hid (¬ ltM x S[j] → _) := hid (fun h => FIN.out k hk HK1.out (.inr ⟨j, hj, hkj, h⟩))
            have HJ := hid hkj
            clear hk0 hc2 hkj
            generalize hy : S[j] = y at *
            clear hy
            by_cases h1 : x.first < y.first
            · have hn2 := hid (NX.out (.inl h1))
              have hd1 : decide (x.first < y.first) = true := decide_eq_true h1
              clear NX EX2
              go_wp2_with fail
              go_quiet (fail)
              go_wp2_with fail
              go_roundw
              case rel => exact ⟨j, by go_num, by omega, hn2, bdN hbs _⟩
              case measure => have := HJ.out; simp [intOf]; omega
            · have hd1 : decide (x.first < y.first) = false := decide_eq_false h1
              by_cases h2 : y.first = x.first
              · have hd2 : (y.first == x.first) = true := by simpa using h2
                by_cases h3 : x.id < y.id
                · have hn2 := hid (NX.out (.inr ⟨h2.symm, h3⟩))
                  have hd3 : decide (x.id < y.id) = true := decide_eq_true h3
                  clear NX EX2 h2
                  go_wp2_with fail
                  go_quiet (fail)
                  go_wp2_with fail
                  go_roundw
                  case rel => exact ⟨j, by go_num, by omega, hn2, bdN hbs _⟩
                  case measure => have := HJ.out; simp [intOf]; omega
                · have k2f := hid (EX2.out (by unfold ltM; omega))
                  have hd3 : decide (x.id < y.id) = false := decide_eq_false h3
                  clear NX EX2 h2
                  go_wp2_with fail
                  go_quiet (fail)
                  go_wp2_with fail
                  generalize hW5 : wr.drewN nq = w5 at *
                  have bs5 : Below w2.heap.size w2 w5 := by rw [← hW5]; exact bdN hbs nq
                  clear hW5
                  have bwr := hbo.trans (bs5.mono hbo.size)
                  have hwz : w.heap.size ≤ w5.heap.size := Nat.le_trans bwr1.size bwr.size
                  have hOw := HO.out.below bs5
                  obtain ⟨q0, q1, q2, q3, q4, q5, q6, q7⟩ := HC.out w5 bwr
                  have hs1 : ∀ wx, (Instr.slice 22 (.slice (some ⟨b2, off2, none⟩) S.length co) none (some (.int .i64 (k : Int))) none).run Try.prog wx = .ok (sliced (some ⟨b2, off2, none⟩) 0 k co 8) wx := fun wx => run_topR (hi := k) (by omega) wx
                  have hs2 : ∀ wx, (Instr.slice 22 (.slice (some ⟨b2, off2, none⟩) S.length co) (some (.int .i64 (k : Int))) none none).run Try.prog wx = .ok (sliced (some ⟨b2, off2, none⟩) k S.length co 8) wx := fun wx => run_fromR (s := k) (by omega) wx
                  have r1 := hOw.rd.part 0 k (by omega) (by omega)
                  have r2 := hOw.rd.part k S.length (by omega) (Nat.le_refl _)
                  rw [Nat.sub_zero, List.drop_zero] at r1
                  rw [List.take_of_length_le (by rw [List.length_drop]; omega)] at r2
                  change KRm.Rd w5 (sliced (some ⟨b2, off2, none⟩) 0 k co 8) _ at r1
                  change KRm.Rd w5 (sliced (some ⟨b2, off2, none⟩) k S.length co 8) _ at r2
                  generalize sliced (some ⟨b2, off2, none⟩) 0 k co 8 = v1 at *
                  generalize sliced (some ⟨b2, off2, none⟩) k S.length co 8 = v2 at *
                  have ht1 : (S.take k).length ≤ S.length := by rw [List.length_take]; omega
                  have ht2 : (S.drop k).length ≤ S.length := by rw [List.length_drop]; omega
                  have ht3 : Hid ((S.take k ++ [x] ++ S.drop k).length = S.length + 1) := hid (by simp only [List.length_append, List.length_take, List.length_drop, List.length_singleton]; omega)
                  generalize S.take k = T1 at *
                  generalize S.drop k = T2 at *
                  have hSz : S.length ≤ 1099511627776 := by omega
                  have d5 : Below w5.heap.size w5 w5.drew := (Below.refl _ _).drew
                  have dA : Below w5.heap.size w5 (w5.drew.alloc (.cells #[] 32)) := d5.alloc (Nat.le_refl _) _
                  have dX : Below w5.heap.size w5 (w5.drew.alloc (.cells #[.int .i64 x.id, .int .i64 x.least, .int .i64 x.most, .int .i64 x.first, .int .i64 x.last, .int .i64 x.rows, .int .i64 x.bytes, .int .i64 x.level] 32)) := d5.alloc (Nat.le_refl _) _
                  have dB : Below w5.heap.size w5 ((w5.drew.alloc (.cells #[] 32)).alloc (.cells #[.int .i64 x.id, .int .i64 x.least, .int .i64 x.most, .int .i64 x.first, .int .i64 x.last, .int .i64 x.rows, .int .i64 x.bytes, .int .i64 x.level] 32)) := dA.alloc dA.size _
                  have dC : Below w5.heap.size w5 ((w5.drew.alloc (.cells #[.int .i64 x.id, .int .i64 x.least, .int .i64 x.most, .int .i64 x.first, .int .i64 x.last, .int .i64 x.rows, .int .i64 x.bytes, .int .i64 x.level] 32)).alloc (.cells #[] 32)) := dX.alloc dX.size _
                  have mA := Kd.own_empty (K := KRm) (heap_alloc_new w5.drew (.cells #[] 32)) (B := w5.heap.size) (Nat.le_refl _)
                  have mB := Kd.own_empty (K := KRm) (row_alloc (heap_alloc_new w5.drew (.cells #[] 32)) (.cells #[.int .i64 x.id, .int .i64 x.least, .int .i64 x.most, .int .i64 x.first, .int .i64 x.last, .int .i64 x.rows, .int .i64 x.bytes, .int .i64 x.level] 32)) (B := w5.heap.size) (Nat.le_refl _)
                  have hC0 := heap_alloc_new (w5.drew.alloc (.cells #[.int .i64 x.id, .int .i64 x.least, .int .i64 x.most, .int .i64 x.first, .int .i64 x.last, .int .i64 x.rows, .int .i64 x.bytes, .int .i64 x.level] 32)) (.cells #[] 32)
                  rw [World.size_alloc] at hC0
                  have mC := Kd.own_empty (K := KRm) (g := w5.heap.size + 1) hC0 (B := w5.heap.size) (Nat.le_succ _)
                  have xB : (((w5.drew.alloc (.cells #[] 32)).alloc (.cells #[.int .i64 x.id, .int .i64 x.least, .int .i64 x.most, .int .i64 x.first, .int .i64 x.last, .int .i64 x.rows, .int .i64 x.bytes, .int .i64 x.level] 32))).heap[w5.heap.size + 1]? = some (.cells #[.int .i64 x.id, .int .i64 x.least, .int .i64 x.most, .int .i64 x.first, .int .i64 x.last, .int .i64 x.rows, .int .i64 x.bytes, .int .i64 x.level] 32 (0, 0)) := by
                    have := heap_alloc_new (w5.drew.alloc (.cells #[] 32)) (.cells #[.int .i64 x.id, .int .i64 x.least, .int .i64 x.most, .int .i64 x.first, .int .i64 x.last, .int .i64 x.rows, .int .i64 x.bytes, .int .i64 x.level] 32)
                    rwa [World.size_alloc] at this
                  have xC := row_alloc (heap_alloc_new w5.drew (.cells #[.int .i64 x.id, .int .i64 x.least, .int .i64 x.most, .int .i64 x.first, .int .i64 x.last, .int .i64 x.rows, .int .i64 x.bytes, .int .i64 x.level] 32)) (.cells #[] 32)
                  have hneB : w5.heap.size + 1 ≠ w5.heap.size := by omega
                  have hneC : w5.heap.size ≠ w5.heap.size + 1 := by omega
                  have mkQ : ∀ w', Below w5.heap.size w5 w' → Mc w' b (off + i * 8) x := fun w' h => HC.out w' (bwr.trans (h.mono bwr.size))
                  have ⟨qA0, qA1, qA2, qA3, qA4, qA5, qA6, qA7⟩ := mkQ _ ((Below.refl _ w5).alloc (Nat.le_refl _) (.cells #[] 32))
                  have hone : ∀ (W6 : World) (nx : Nat), W6.heap[nx]? = some (.cells #[.int .i64 x.id, .int .i64 x.least, .int .i64 x.most, .int .i64 x.first, .int .i64 x.last, .int .i64 x.rows, .int .i64 x.bytes, .int .i64 x.level] 32 (0, 0)) → KRm.Rd W6 (.slice (some ⟨nx, 0, none⟩) 1 1) [x] := fun W6 nx hx => ⟨_, 1, rfl, by simp, fun _ => ⟨nx, 0, rfl, row_lt hx, fun j u hu => by
                    have e : KRm.cells [x] = encM x := by simp [Kd.cells, KRm]
                    rw [e] at hu
                    rw [Nat.zero_add]
                    exact held_cell hx (by simpa [encM] using hu)⟩⟩
                  clear hOw
                  go_region_law (first
                    | (refine Kd.step_app (K := KRm) (w := w5.drew.alloc (.cells #[] 32)) rfl (.tmp 100) (.tmp 103) 22 rfl Try.underlying22 infoRm rfl w5.heap.size (.slice (some ⟨w5.heap.size, 0, none⟩) 0 0) v1 [] T1 rfl mA rfl (r1.below dA) (by simp; unfold maxLen; omega) (by simp; omega) dA.size ?_; intro v6 w6 o6 b6 g6; have c6 := dA.trans b6; have ⟨e0, e1, e2, e3, e4, e5, e6, e7⟩ := mkQ _ c6; have hO2 := o6.alloc (.cells #[.int .i64 x.id, .int .i64 x.least, .int .i64 x.most, .int .i64 x.first, .int .i64 x.last, .int .i64 x.rows, .int .i64 x.bytes, .int .i64 x.level] 32); have hX2 := hone _ _ (heap_alloc_new w6 (.cells #[.int .i64 x.id, .int .i64 x.least, .int .i64 x.most, .int .i64 x.first, .int .i64 x.last, .int .i64 x.rows, .int .i64 x.bytes, .int .i64 x.level] 32)); have c2 := c6.alloc c6.size (.cells #[.int .i64 x.id, .int .i64 x.least, .int .i64 x.most, .int .i64 x.first, .int .i64 x.last, .int .i64 x.rows, .int .i64 x.bytes, .int .i64 x.level] 32))
                    | (refine Kd.step_app (K := KRm) (w := (w5.drew.alloc (.cells #[] 32)).alloc (.cells #[.int .i64 x.id, .int .i64 x.least, .int .i64 x.most, .int .i64 x.first, .int .i64 x.last, .int .i64 x.rows, .int .i64 x.bytes, .int .i64 x.level] 32)) rfl (.tmp 100) (.tmp 103) 22 rfl Try.underlying22 infoRm rfl w5.heap.size (.slice (some ⟨w5.heap.size, 0, none⟩) 0 0) v1 [] T1 rfl mB rfl (r1.below dB) (by simp; unfold maxLen; omega) (by simp; omega) dB.size ?_; intro v6 w6 o6 b6 g6; have c2 := dB.trans b6; have hO2 := o6; have hX2 := hone _ _ (far_row (g := w5.heap.size) g6 xB hneB))
                    | (refine Kd.step_app (K := KRm) (w := (w5.drew.alloc (.cells #[.int .i64 x.id, .int .i64 x.least, .int .i64 x.most, .int .i64 x.first, .int .i64 x.last, .int .i64 x.rows, .int .i64 x.bytes, .int .i64 x.level] 32)).alloc (.cells #[] 32)) rfl (.tmp 100) (.tmp 103) 22 rfl Try.underlying22 infoRm rfl w5.heap.size (.slice (some ⟨w5.heap.size + 1, 0, none⟩) 0 0) v1 [] T1 rfl mC rfl (r1.below dC) (by simp; unfold maxLen; omega) (by simp; omega) dC.size ?_; intro v6 w6 o6 b6 g6; have c2 := dC.trans b6; have hO2 := o6; have hX2 := hone _ _ (far_row (g := w5.heap.size + 1) g6 xC hneC))
                    | (refine Kd.step_app (K := KRm) rfl (.tmp 104) (.tmp 109) 22 rfl Try.underlying22 infoRm rfl w5.heap.size _ _ _ [x] rfl hO2 rfl hX2 (by simp; unfold maxLen; omega) (by simp; omega) c2.size ?_; intro v7 w7 o7 b7 g7; have c7 := c2.trans b7)
                    | (refine Kd.step_app (K := KRm) rfl (.tmp 110) (.tmp 113) 22 rfl Try.underlying22 infoRm rfl w5.heap.size _ v2 _ T2 rfl o7 rfl (r2.below c7) (by simp; unfold maxLen; omega) (by simp; omega) c7.size ?_; intro v8 w8 o8 b8 g8; have c8 := c7.trans b8))
                  all_goals (
                    go_wp2_with fail
                    go_roundw
                    case rel => exact ⟨i + 1, T1 ++ [x] ++ T2, by go_num, HL.out, by rw [ht3.out]; omega, k2f, by have o9 := o8.mono hwz; rwa [List.nil_append] at o9, bwr.trans (c8.mono bwr.size)⟩
                    case measure => have := HL.out; simp [intOf]; omega)
              · have k2f := hid (EX2.out (by unfold ltM; omega))
                have hd2 : (y.first == x.first) = false := by simpa using h2
                clear NX EX2 h2
                go_wp2_with fail
                go_quiet (fail)
                go_wp2_with fail
                generalize hW5 : wr.drewN nq = w5 at *
                have bs5 : Below w2.heap.size w2 w5 := by rw [← hW5]; exact bdN hbs nq
                clear hW5
                have bwr := hbo.trans (bs5.mono hbo.size)
                have hwz : w.heap.size ≤ w5.heap.size := Nat.le_trans bwr1.size bwr.size
                have hOw := HO.out.below bs5
                obtain ⟨q0, q1, q2, q3, q4, q5, q6, q7⟩ := HC.out w5 bwr
                have hs1 : ∀ wx, (Instr.slice 22 (.slice (some ⟨b2, off2, none⟩) S.length co) none (some (.int .i64 (k : Int))) none).run Try.prog wx = .ok (sliced (some ⟨b2, off2, none⟩) 0 k co 8) wx := fun wx => run_topR (hi := k) (by omega) wx
                have hs2 : ∀ wx, (Instr.slice 22 (.slice (some ⟨b2, off2, none⟩) S.length co) (some (.int .i64 (k : Int))) none none).run Try.prog wx = .ok (sliced (some ⟨b2, off2, none⟩) k S.length co 8) wx := fun wx => run_fromR (s := k) (by omega) wx
                have r1 := hOw.rd.part 0 k (by omega) (by omega)
                have r2 := hOw.rd.part k S.length (by omega) (Nat.le_refl _)
                rw [Nat.sub_zero, List.drop_zero] at r1
                rw [List.take_of_length_le (by rw [List.length_drop]; omega)] at r2
                change KRm.Rd w5 (sliced (some ⟨b2, off2, none⟩) 0 k co 8) _ at r1
                change KRm.Rd w5 (sliced (some ⟨b2, off2, none⟩) k S.length co 8) _ at r2
                generalize sliced (some ⟨b2, off2, none⟩) 0 k co 8 = v1 at *
                generalize sliced (some ⟨b2, off2, none⟩) k S.length co 8 = v2 at *
                have ht1 : (S.take k).length ≤ S.length := by rw [List.length_take]; omega
                have ht2 : (S.drop k).length ≤ S.length := by rw [List.length_drop]; omega
                have ht3 : Hid ((S.take k ++ [x] ++ S.drop k).length = S.length + 1) := hid (by simp only [List.length_append, List.length_take, List.length_drop, List.length_singleton]; omega)
                generalize S.take k = T1 at *
                generalize S.drop k = T2 at *
                have hSz : S.length ≤ 1099511627776 := by omega
                have d5 : Below w5.heap.size w5 w5.drew := (Below.refl _ _).drew
                have dA : Below w5.heap.size w5 (w5.drew.alloc (.cells #[] 32)) := d5.alloc (Nat.le_refl _) _
                have dX : Below w5.heap.size w5 (w5.drew.alloc (.cells #[.int .i64 x.id, .int .i64 x.least, .int .i64 x.most, .int .i64 x.first, .int .i64 x.last, .int .i64 x.rows, .int .i64 x.bytes, .int .i64 x.level] 32)) := d5.alloc (Nat.le_refl _) _
                have dB : Below w5.heap.size w5 ((w5.drew.alloc (.cells #[] 32)).alloc (.cells #[.int .i64 x.id, .int .i64 x.least, .int .i64 x.most, .int .i64 x.first, .int .i64 x.last, .int .i64 x.rows, .int .i64 x.bytes, .int .i64 x.level] 32)) := dA.alloc dA.size _
                have dC : Below w5.heap.size w5 ((w5.drew.alloc (.cells #[.int .i64 x.id, .int .i64 x.least, .int .i64 x.most, .int .i64 x.first, .int .i64 x.last, .int .i64 x.rows, .int .i64 x.bytes, .int .i64 x.level] 32)).alloc (.cells #[] 32)) := dX.alloc dX.size _
                have mA := Kd.own_empty (K := KRm) (heap_alloc_new w5.drew (.cells #[] 32)) (B := w5.heap.size) (Nat.le_refl _)
                have mB := Kd.own_empty (K := KRm) (row_alloc (heap_alloc_new w5.drew (.cells #[] 32)) (.cells #[.int .i64 x.id, .int .i64 x.least, .int .i64 x.most, .int .i64 x.first, .int .i64 x.last, .int .i64 x.rows, .int .i64 x.bytes, .int .i64 x.level] 32)) (B := w5.heap.size) (Nat.le_refl _)
                have hC0 := heap_alloc_new (w5.drew.alloc (.cells #[.int .i64 x.id, .int .i64 x.least, .int .i64 x.most, .int .i64 x.first, .int .i64 x.last, .int .i64 x.rows, .int .i64 x.bytes, .int .i64 x.level] 32)) (.cells #[] 32)
                rw [World.size_alloc] at hC0
                have mC := Kd.own_empty (K := KRm) (g := w5.heap.size + 1) hC0 (B := w5.heap.size) (Nat.le_succ _)
                have xB : (((w5.drew.alloc (.cells #[] 32)).alloc (.cells #[.int .i64 x.id, .int .i64 x.least, .int .i64 x.most, .int .i64 x.first, .int .i64 x.last, .int .i64 x.rows, .int .i64 x.bytes, .int .i64 x.level] 32))).heap[w5.heap.size + 1]? = some (.cells #[.int .i64 x.id, .int .i64 x.least, .int .i64 x.most, .int .i64 x.first, .int .i64 x.last, .int .i64 x.rows, .int .i64 x.bytes, .int .i64 x.level] 32 (0, 0)) := by
                  have := heap_alloc_new (w5.drew.alloc (.cells #[] 32)) (.cells #[.int .i64 x.id, .int .i64 x.least, .int .i64 x.most, .int .i64 x.first, .int .i64 x.last, .int .i64 x.rows, .int .i64 x.bytes, .int .i64 x.level] 32)
                  rwa [World.size_alloc] at this
                have xC := row_alloc (heap_alloc_new w5.drew (.cells #[.int .i64 x.id, .int .i64 x.least, .int .i64 x.most, .int .i64 x.first, .int .i64 x.last, .int .i64 x.rows, .int .i64 x.bytes, .int .i64 x.level] 32)) (.cells #[] 32)
                have hneB : w5.heap.size + 1 ≠ w5.heap.size := by omega
                have hneC : w5.heap.size ≠ w5.heap.size + 1 := by omega
                have mkQ : ∀ w', Below w5.heap.size w5 w' → Mc w' b (off + i * 8) x := fun w' h => HC.out w' (bwr.trans (h.mono bwr.size))
                have ⟨qA0, qA1, qA2, qA3, qA4, qA5, qA6, qA7⟩ := mkQ _ ((Below.refl _ w5).alloc (Nat.le_refl _) (.cells #[] 32))
                have hone : ∀ (W6 : World) (nx : Nat), W6.heap[nx]? = some (.cells #[.int .i64 x.id, .int .i64 x.least, .int .i64 x.most, .int .i64 x.first, .int .i64 x.last, .int .i64 x.rows, .int .i64 x.bytes, .int .i64 x.level] 32 (0, 0)) → KRm.Rd W6 (.slice (some ⟨nx, 0, none⟩) 1 1) [x] := fun W6 nx hx => ⟨_, 1, rfl, by simp, fun _ => ⟨nx, 0, rfl, row_lt hx, fun j u hu => by
                  have e : KRm.cells [x] = encM x := by simp [Kd.cells, KRm]
                  rw [e] at hu
                  rw [Nat.zero_add]
                  exact held_cell hx (by simpa [encM] using hu)⟩⟩
                clear hOw
                go_region_law (first
                  | (refine Kd.step_app (K := KRm) (w := w5.drew.alloc (.cells #[] 32)) rfl (.tmp 100) (.tmp 103) 22 rfl Try.underlying22 infoRm rfl w5.heap.size (.slice (some ⟨w5.heap.size, 0, none⟩) 0 0) v1 [] T1 rfl mA rfl (r1.below dA) (by simp; unfold maxLen; omega) (by simp; omega) dA.size ?_; intro v6 w6 o6 b6 g6; have c6 := dA.trans b6; have ⟨e0, e1, e2, e3, e4, e5, e6, e7⟩ := mkQ _ c6; have hO2 := o6.alloc (.cells #[.int .i64 x.id, .int .i64 x.least, .int .i64 x.most, .int .i64 x.first, .int .i64 x.last, .int .i64 x.rows, .int .i64 x.bytes, .int .i64 x.level] 32); have hX2 := hone _ _ (heap_alloc_new w6 (.cells #[.int .i64 x.id, .int .i64 x.least, .int .i64 x.most, .int .i64 x.first, .int .i64 x.last, .int .i64 x.rows, .int .i64 x.bytes, .int .i64 x.level] 32)); have c2 := c6.alloc c6.size (.cells #[.int .i64 x.id, .int .i64 x.least, .int .i64 x.most, .int .i64 x.first, .int .i64 x.last, .int .i64 x.rows, .int .i64 x.bytes, .int .i64 x.level] 32))
                  | (refine Kd.step_app (K := KRm) (w := (w5.drew.alloc (.cells #[] 32)).alloc (.cells #[.int .i64 x.id, .int .i64 x.least, .int .i64 x.most, .int .i64 x.first, .int .i64 x.last, .int .i64 x.rows, .int .i64 x.bytes, .int .i64 x.level] 32)) rfl (.tmp 100) (.tmp 103) 22 rfl Try.underlying22 infoRm rfl w5.heap.size (.slice (some ⟨w5.heap.size, 0, none⟩) 0 0) v1 [] T1 rfl mB rfl (r1.below dB) (by simp; unfold maxLen; omega) (by simp; omega) dB.size ?_; intro v6 w6 o6 b6 g6; have c2 := dB.trans b6; have hO2 := o6; have hX2 := hone _ _ (far_row (g := w5.heap.size) g6 xB hneB))
                  | (refine Kd.step_app (K := KRm) (w := (w5.drew.alloc (.cells #[.int .i64 x.id, .int .i64 x.least, .int .i64 x.most, .int .i64 x.first, .int .i64 x.last, .int .i64 x.rows, .int .i64 x.bytes, .int .i64 x.level] 32)).alloc (.cells #[] 32)) rfl (.tmp 100) (.tmp 103) 22 rfl Try.underlying22 infoRm rfl w5.heap.size (.slice (some ⟨w5.heap.size + 1, 0, none⟩) 0 0) v1 [] T1 rfl mC rfl (r1.below dC) (by simp; unfold maxLen; omega) (by simp; omega) dC.size ?_; intro v6 w6 o6 b6 g6; have c2 := dC.trans b6; have hO2 := o6; have hX2 := hone _ _ (far_row (g := w5.heap.size + 1) g6 xC hneC))
                  | (refine Kd.step_app (K := KRm) rfl (.tmp 104) (.tmp 109) 22 rfl Try.underlying22 infoRm rfl w5.heap.size _ _ _ [x] rfl hO2 rfl hX2 (by simp; unfold maxLen; omega) (by simp; omega) c2.size ?_; intro v7 w7 o7 b7 g7; have c7 := c2.trans b7)
                  | (refine Kd.step_app (K := KRm) rfl (.tmp 110) (.tmp 113) 22 rfl Try.underlying22 infoRm rfl w5.heap.size _ v2 _ T2 rfl o7 rfl (r2.below c7) (by simp; unfold maxLen; omega) (by simp; omega) c7.size ?_; intro v8 w8 o8 b8 g8; have c8 := c7.trans b8))
                all_goals (
                  go_wp2_with fail
                  go_roundw
                  case rel => exact ⟨i + 1, T1 ++ [x] ++ T2, by go_num, HL.out, by rw [ht3.out]; omega, k2f, by have o9 := o8.mono hwz; rwa [List.nil_append] at o9, bwr.trans (c8.mono bwr.size)⟩
                  case measure => have := HL.out; simp [intOf]; omega)
    · have hil : ¬ (i : Int) < (l.length : Int) := by omega
      have e0 : l.take i = l := List.take_of_length_le (by omega)
      have HEND : Hid (∀ a, PackA S fan mb a → PackOf l fan mb keep now a) := hid (fun a ha => .inr ⟨HPK.out, HFI.out, S, by have := HS.out.1; rwa [e0] at this, HS.out.2, ha⟩)
      have HBY : Hid (∀ y ∈ S, 0 ≤ y.bytes ∧ y.bytes < 1099511627776) := hid (fun y hy => by
        have h1 := (List.mem_filter.1 (HS.out.1.subset hy)).1
        have := rt_iff.1 (HFN.out.1 y (List.mem_of_mem_take h1))
        exact ⟨this.by1, this.by2⟩)
      have hSz : S.length ≤ 1099511627776 := by omega
      have ROWS := hid (fun w5 (hw : Below wr.heap.size wr w5) => met_row (K := KRm) rfl rfl (ho.below hw).rd)
      have bwo := bwr1.trans (hbw.mono bwr1.size)
      have hbo := hbw
      clear e0 HS ho ROW HFN HPK HFI hbw hn
      go_wp2
      generalize hwo : wr = wo at *
      clear hwo
      go_loopw [10] (fun lv ws => ∃ n : Nat, lv = .int .i64 n ∧ n ≤ 20 ∧ Hid (∀ lv' : Nat, lv' < n → ∀ i : Nat, i + fan ≤ S.length → ¬ goodM S fan mb lv' i) ∧ Below wo.heap.size wo ws) (fun lv _ => 20 - (intOf lv).toNat)
      case atStart => exact ⟨0, rfl, by omega, hid (fun lv' h => by omega), Below.refl _ _⟩
      case round =>
        obtain ⟨n, rfl, hn20, HG, hb1⟩ := hrel
        by_cases hlt : n < 20
        · have hltI : (n : Int) < 20 := by omega
          have HL20 := hid hlt
          go_wp2
          go_loopw [11] (fun iv ws => ∃ m : Nat, iv = .int .i64 m ∧ m ≤ S.length + 1 ∧ Hid (∀ i' : Nat, i' < m → i' + fan ≤ S.length → ¬ goodM S fan mb n i') ∧ Below wo.heap.size wo ws) (fun iv _ => S.length + 1 - (intOf iv).toNat)
          case atStart => exact ⟨0, rfl, by omega, hid (fun i' h => by omega), hb1⟩
          case round =>
            obtain ⟨m, rfl, hm, HGM, hb2⟩ := hrel
            obtain ⟨k0, k1, k2⟩ := KEEP.out wr (hbo.trans (hb2.mono hbo.size))
            have hwm : IntKind.i64.wrap ((m : Int) + (fan : Int)) = (m : Int) + (fan : Int) := by rw [IntKind.wrap_i64]; omega
            by_cases hmf : m + fan ≤ S.length
            · have hmI : ((m + fan : Nat) : Int) ≤ (S.length : Int) := by omega
              have hmI2 : (m : Int) + (fan : Int) ≤ (S.length : Int) := by omega
              have HMF := hid hmf
              clear k1 k2
              go_wp2
              go_loopw [12, 13, 14] (fun ov tv kv ws => ∃ (c kk : Nat) (M : List Int) (z : Int), tv = .int .i64 z ∧ kv = .int .i64 kk ∧ c ≤ fan ∧ Hid (kk = m + c) ∧ Hid (M.length = c) ∧ Hid (M = idsM ((winM S fan m).take c)) ∧ Hid (RunTo S fan n m c z) ∧ KInt.Own ws wo.heap.size ov M ∧ Below wo.heap.size wo ws) (fun _ _ kv _ => m + fan - (intOf kv).toNat)
              case atStart => exact ⟨0, m, [], 0, rfl, rfl, by omega, hid (by omega), hid rfl, hid (by simp [idsM]), hid ⟨by simp, by simp [sumB]⟩, Kd.Own.nil _ _, hb2⟩
              case round =>
                obtain ⟨c5, kk, M, z, rfl, rfl, hc5, HKK, HMl, HM, HRT, hoM, hb3⟩ := hrel
                obtain ⟨k0, k1, k2⟩ := KEEP.out wr (hbo.trans (hb3.mono hbo.size))
                obtain ⟨AM, cM, rfl, _⟩ := hoM.rd.form
                have hbnd := HRT.out.bound HBY.out
                have hkk := HKK.out
                have HNG : Hid (¬ goodM S fan mb n m → ∀ i' : Nat, i' < m + 1 → i' + fan ≤ S.length → ¬ goodM S fan mb n i') := hid (fun h i' hi' hle => by
                  by_cases e : i' = m
                  · subst e; exact h
                  · exact HGM.out i' (by omega) hle)
                by_cases hcf : c5 < fan
                · obtain ⟨b2, off2, hAO, hbb, hc2⟩ := ROWS.out wo (Below.refl _ _) (m + c5) (by omega)
                  have HCF := hid hcf
                  have hoff : off2 + (m + c5) * 8 = off2 + kk * 8 := by rw [hkk]
                  have hc3 := hc2 wr hb3
                  rw [hoff] at hc2 hc3
                  have HC9 := hid hc2
                  clear hoff
                  have HNX : Hid ((S[m + c5]'(by omega)).level = n → RunTo S fan n m (c5 + 1) (z + (S[m + c5]'(by omega)).bytes) ∧ M ++ [(S[m + c5]'(by omega)).id] = idsM ((winM S fan m).take (c5 + 1))) := hid (fun h => ⟨HRT.out.next HMF.out hcf h, by
                    have h2 : c5 < (winM S fan m).length := by rw [winM_len HMF.out]; exact hcf
                    rw [List.take_succ_eq_append_getElem h2, idsM_app, HM.out, winM_get HMF.out hcf]
                    rfl⟩)
                  have HNO : Hid ((S[m + c5]'(by omega)).level ≠ n → ¬ goodM S fan mb n m) := hid (fun h => run_no1 HMF.out hcf h)
                  have hby := HBY.out _ (List.getElem_mem (show m + c5 < S.length by omega))
                  have hwz : IntKind.i64.wrap (z + (S[m + c5]'(by omega)).bytes) = z + (S[m + c5]'(by omega)).bytes := by rw [IntKind.wrap_i64]; omega
                  have hkI : (kk : Int) < ((m + fan : Nat) : Int) := by omega
                  have hkI2 : (kk : Int) < (m : Int) + (fan : Int) := by omega
                  have hkS : (kk : Int) < (S.length : Int) := by omega
                  have hmm : M.length + 1 ≤ maxLen := by rw [HMl.out]; unfold maxLen; omega
                  have hml : (M.length + 1) * 8 ≤ 140737488355328 := by rw [HMl.out]; omega
                  have hwz8 : wo.heap.size ≤ wr.heap.size := hb3.size
                  clear hc2
                  generalize S[m + c5]'(by omega) = y at *
                  clear hbnd hkk
                  obtain ⟨s0, s1, s2, s3, s4, s5, s6, s7⟩ := hc3
                  subst hAO
                  by_cases hlv : y.level = (n : Int)
                  · have hd : (y.level == (n : Int)) = true := by simpa using hlv
                    have HN2 := hid (HNX.out hlv)
                    clear HNX HNO hlv
                    go_wp2_with (at_builtin; refine Kd.wp_app1 (K := KInt) rfl (.tmp 146) (.tmp 152) 49 rfl Try.underlying49 infoInt rfl wo.heap.size _ M y.id rfl hoM rfl rfl rfl hmm hml hwz8 ?_; intro v5 w5 o5 b5 g5 n5; have ⟨e0, e1, e2, e3, e4, e5, e6, e7⟩ := HC9.out w5 (hb3.trans b5))
                    obtain ⟨A5, cc5, rfl, _⟩ := o5.rd.form
                    go_roundw
                    case rel => exact ⟨c5 + 1, kk + 1, M ++ [y.id], z + y.bytes, rfl, by go_num, HCF.out, hid (by rw [HKK.out]; omega), hid (by rw [List.length_append, HMl.out]; rfl), hid HN2.out.2, hid HN2.out.1, o5, hb3.trans b5⟩
                    case measure => have h1 := HCF.out; have h2 := HKK.out; simp [intOf]; omega
                  · have hd : (y.level == (n : Int)) = false := by simpa using hlv
                    have HN2 := hid (HNG.out (HNO.out hlv))
                    have hln : ((M.length : Int) == (fan : Int)) = false := by rw [HMl.out]; simp; omega
                    clear HNX HNO hlv
                    go_wp2
                    go_roundw
                    case rel => exact ⟨m + 1, by go_num, by have := HMF.out; omega, HN2, hb3⟩
                    case measure => have := HMF.out; simp [intOf]; omega
                · obtain rfl : c5 = fan := by omega
                  have hkI : ¬ (kk : Int) < ((m + c5 : Nat) : Int) := by omega
                  have hkI2 : ¬ (kk : Int) < (m : Int) + (c5 : Int) := by omega
                  have hln : ((M.length : Int) == (c5 : Int)) = true := by rw [HMl.out]; simp
                  by_cases hz : z ≤ mb
                  · have HA : Hid (PackOf l c5 mb keep now (winM S c5 m)) := hid (HEND.out _ (.inl ⟨n, m, HL20.out, HMF.out, run_yes HRT.out HMF.out hz, fun lv' i' hor hle => by
                      rcases hor with h | ⟨rfl, h⟩
                      · exact HG.out lv' h i' hle
                      · exact HGM.out i' h hle, rfl⟩))
                    have HI : Hid (idsM (winM S c5 m) = M) := hid (by rw [HM.out, List.take_of_length_le (by rw [winM_len HMF.out]; exact Nat.le_refl _)])
                    clear hbnd hkk
                    go_wp2
                    go_ret
                    exact ⟨_, HA.out, _, rfl, by rw [HI.out]; exact hoM.mono bwo.size, bwo.trans (hb3.mono bwo.size)⟩
                  · have HN2 := hid (HNG.out (run_no2 HRT.out HBY.out (by omega)))
                    clear hbnd hkk
                    go_wp2
                    go_roundw
                    case rel => exact ⟨m + 1, by go_num, by have := HMF.out; omega, HN2, hb3⟩
                    case measure => have := HMF.out; simp [intOf]; omega
            · have hmI : ¬ ((m + fan : Nat) : Int) ≤ (S.length : Int) := by omega
              have hmI2 : ¬ (m : Int) + (fan : Int) ≤ (S.length : Int) := by omega
              have HN : Hid (∀ lv' : Nat, lv' < n + 1 → ∀ i : Nat, i + fan ≤ S.length → ¬ goodM S fan mb lv' i) := hid (fun lv' h i' hi' => by
                by_cases e : lv' = n
                · subst e; exact HGM.out i' (by omega) hi'
                · exact HG.out lv' (by omega) i' hi')
              clear k1 k2 HG HGM
              go_wp2
              go_roundw
              case rel => exact ⟨n + 1, by go_num, HL20.out, HN, hb2⟩
              case measure => have := HL20.out; simp [intOf]; omega
        · have hlt2 : ¬ (n : Int) < 20 := by omega
          have HO : Hid (PackOf l fan mb keep now []) := hid (HEND.out [] (.inr ⟨fun lv' i' hl hi => HG.out lv' (by omega) i' hi, rfl⟩))
          clear HG
          go_wp2
          go_ret
          exact ⟨[], HO.out, _, rfl, Kd.Own.nil _ _, bwo.trans (hb1.mono bwo.size)⟩
end Go.Proofs.Ytoomhfjmcdbgkaa
