/-
  The reference's Delete: the walk. Conditions: those that each theorem names.
-/
import Derived.Test.YtcohpgahffbnlaaOr7
import Derived.Test.YtcohpgahffbnlaaOm8
import Derived.Deep.RegionLaw
namespace Go.Icz
open Go.RowKit
/-- What the reference's Delete does. -/
def rdelA (N : SM) (k : ByteArray) : SM := if (rfind N.L k).2 then { N with L := rcut N.L (rfind N.L k).1, ch := N.ch ++ [⟨N.now, k, false⟩] } else N
def rdelM (M : SM) (k : ByteArray) : Int × SM := if nameB k = false then (1, M) else (errS M, if okS M then rdelA (askS M) k else askS M)
end Go.Icz
namespace Go.Proofs.Ytcohpgahffbnlaa
open Go.RowKit Go.Icz Go.Maps Go.ChangeMaps Go.MapKept
set_option maxRecDepth 100000
set_option maxHeartbeats 8000000
variable {w : World} {T : Nat → Prop} {r : Nat} {lv cv : Value} {xs : List OV} {M : SM} {c : Nat}
/-- A change is appended: what the run is, and the store behind it. -/
theorem Rf.append (h : Rf w T r lv cv xs M) (hT : ∀ k, w.heap.size ≤ k → T k) (x : Chg) (hlen : M.ch.length ≤ 4194304) {M' : SM} (hL : M'.L = M.L) (hC : M'.ch = M.ch ++ [x]) (hM : rfR M' lv cv = rfR M lv cv) :
    ∃ v6 w6, (Builtin.append_ #[46, 46] 46 #[cv, .slice (some ⟨w.heap.size, 0, none⟩) 1 1]).run Try.prog (w.alloc (.cells #[.string x.k, .int .i64 (x.t : Int), .bool x.c] 84)) = .ok v6 w6 ∧ w6.cell? ⟨r, 5, none⟩ = some cv ∧ w6.frozen? ⟨r, 5, none⟩ = false ∧ Hid (Rf (w6.setCell ⟨r, 5, none⟩ v6) T r lv v6 xs M' ∧ Tch T w (w6.setCell ⟨r, 5, none⟩ v6)) := by
  have ba := (Below.refl w.heap.size w).alloc (Nat.le_refl _) (.cells #[.string x.k, .int .i64 (x.t : Int), .bool x.c] 84)
  have h2 := h.below ba
  obtain ⟨v6, w6, hrun, o6, g6, n6⟩ := Kd.run_app_at (K := KRC) (P := Try.prog) (w := w.alloc (.cells #[.string x.k, .int .i64 (x.t : Int), .bool x.c] 84)) 46 46 Try.underlying46 infoRC rfl cv _ M.ch [x] h2.ch (Kd.one_rd (K := KRC) w x) (by unfold maxLen; simp; omega) (by simp; omega)
  have t6 : Tch (fun j => cv.ownBlock = some j) (w.alloc (.cells #[.string x.k, .int .i64 (x.t : Int), .bool x.c] 84)) w6 := Tch.grown g6 (fun j hj => hj)
  have hr6 := t6.row h2.r_ (fun e => by
    obtain ⟨cur, hx⟩ := h2.ch.row e
    exact tag_ne h2.r_ hx (by decide) rfl)
  obtain ⟨s1, s2⟩ := h2.setC (M' := M') (v := v6) (w' := w6) (fun k hk => hT k (Nat.le_trans ba.size hk)) g6 (by rw [hC]; exact o6) (fun g hg => by
    rcases n6 with h | h
    · exact .inl (by rw [← h]; exact hg)
    · rw [h] at hg
      injection hg with hg
      exact .inr (by omega)) hL hM
  exact ⟨v6, w6, hrun, held_cell hr6 rfl, held_frozen hr6, hid ⟨s1, (Tch.of_below ba).trans s2⟩⟩
theorem RDelete_is (h : Rf w T r lv cv xs M) (hwf : WfS M c) (hT : ∀ k, w.heap.size ≤ k → T k) (k : ByteArray) (hk : k.size ≤ 9223372036854775807) :
    Calls Try.prog 21 #[.pointer (some ⟨r, 0, none⟩), .string k] w fun e w' => e = .returned (.int .i64 (rdelM M k).1) ∧ ∃ lv' cv' xs', Rf w' T r lv' cv' xs' (rdelM M k).2 ∧ Tch T w w' := by
  have hF := fine_is k w hk
  have hTr := h.tr
  have hC := fun w1 (t : Tch (fun _ => False) w w1) => Rcall_is (h.far t (fun _ h => h.elim)) hwf
  cases hb : nameB k
  · have e : rdelM M k = (1, M) := by unfold rdelM; rw [if_pos hb]
    have HQ := hid (fun w1 (t : Tch (fun _ => False) w w1) => h.far t (fun _ h => h.elim))
    rw [e]
    by_cases h1 : 1 ≤ k.size
    · have hbg : begB k = false := by unfold nameB at hb; rw [decide_eq_true h1, Bool.true_and] at hb; exact hb
      rw [hbg] at hF
      obtain ⟨n1, n2, n3⟩ := nil_no h1
      clear h e hb hwf hC h1 hbg hT
      go_enter Try.func21, Try.ntmps21
      go_wp2_with (go_at_call 42; refine hF.mono ?_; rintro e w1 ⟨rfl, t1⟩; clear hF)
      go_ret
      exact ⟨rfl, _, _, _, HQ.out _ t1, t1.mono (fun _ h => h.elim)⟩
    · obtain ⟨n1, n2, n3⟩ := nil_yes h1
      have HQ2 := HQ.out w (Tch.refl _ _)
      clear h e hb hwf hC h1 hF HQ hT
      go_enter Try.func21, Try.ntmps21
      go_wp2
      go_ret
      exact ⟨rfl, _, _, _, HQ2, Tch.refl _ _⟩
  · have hb2 : 1 ≤ k.size ∧ begB k = true := by unfold nameB at hb; rw [Bool.and_eq_true, decide_eq_true_eq] at hb; exact hb
    rw [hb2.2] at hF
    obtain ⟨n1, n2, n3⟩ := nil_no hb2.1
    have hln := hwf.ln
    have hlc : M.ch.length ≤ 4194304 := Nat.le_trans hwf.lc hwf.hc
    have hFi := fun w2 (R2 : Rf w2 T r lv cv xs (askS M)) => Find_is R2 k hln
    have hLA : (askS M).L = M.L := rfl
    rw [hLA] at hFi
    have e : rdelM M k = (errS M, if okS M then rdelA (askS M) k else askS M) := by unfold rdelM; rw [if_neg (by rw [hb]; decide)]
    rw [e]
    have HTT := hid hT
    have HXL := hid h.ob.1
    have hixl := rfind_le M.L k
    have hA : rdelA (askS M) k = if (rfind M.L k).2 then { askS M with L := rcut M.L (rfind M.L k).1, ch := M.ch ++ [⟨M.now, k, false⟩] } else askS M := rfl
    rw [hA]
    have HRF := hid (fun (hf : (rfind M.L k).2 = true) => rfind_there M.L k hf)
    generalize errS M = er at *
    cases ho : okS M
    · rw [ho] at hC
      generalize (rfind M.L k).1 = ix at *
      generalize (rfind M.L k).2 = iy at *
      clear h e hb hb2 hwf hA hLA hT ho HRF
      go_enter Try.func21, Try.ntmps21
      go_wp2_with (first
        | (go_at_call 42; refine hF.mono ?_; rintro e w1 ⟨rfl, t1⟩; clear hF)
        | (go_at_call 43; refine (hC _ t1).mono ?_; rintro e w2 ⟨rfl, R2, t2⟩; clear hC)
        | (go_at_call 29; refine (hFi _ R2).mono ?_; rintro e w3 ⟨rfl, b3⟩; clear hFi))
      go_ret
      exact ⟨rfl, ⟨_, _, _, R2.below b3⟩, ((t1.mono (fun _ h => h.elim)).trans (t2.mono (fun j hj => by rw [hj]; exact hTr))).trans (Tch.of_below b3)⟩
    · rw [ho] at hC
      cases hf : (rfind M.L k).2
      · rw [hf] at hFi
        generalize (rfind M.L k).1 = ix at *
        clear h e hb hb2 hwf hA hLA hT ho HRF hf
        go_enter Try.func21, Try.ntmps21
        go_wp2_with (first
          | (go_at_call 42; refine hF.mono ?_; rintro e w1 ⟨rfl, t1⟩; clear hF)
          | (go_at_call 43; refine (hC _ t1).mono ?_; rintro e w2 ⟨rfl, R2, t2⟩; clear hC)
          | (go_at_call 29; refine (hFi _ R2).mono ?_; rintro e w3 ⟨rfl, b3⟩; clear hFi))
        go_ret
        exact ⟨rfl, ⟨_, _, _, R2.below b3⟩, ((t1.mono (fun _ h => h.elim)).trans (t2.mono (fun j hj => by rw [hj]; exact hTr))).trans (Tch.of_below b3)⟩
      · rw [hf] at hFi
        obtain ⟨hi, _⟩ := HRF.out hf
        rw [← HXL.out] at hi
        generalize (rfind M.L k).1 = ix at *
        obtain ⟨A, cp, rfl, _⟩ := kro_at h.lo
        have hcp : xs.length ≤ cp := by
          obtain ⟨A', c', hv, hc⟩ := h.lo.rd.form
          injection hv with _ _ e3
          rw [e3]
          exact hc
        have hwix : IntKind.i64.wrap ((ix : Int) + 1) = (ix : Int) + 1 := by rw [IntKind.wrap_i64]; omega
        have hxI : (ix : Int) < (xs.length : Int) := by omega
        have hxl : xs.length ≤ 4096 := by rw [HXL.out]; exact hln
        have Hhi := hid hi
        clear h e hb hb2 hwf hA hLA hT ho HRF hf
        go_enter Try.func21, Try.ntmps21
        go_upto_region 6 with (first
          | (go_at_call 42; refine hF.mono ?_; rintro e w1 ⟨rfl, t1⟩; clear hF)
          | (go_at_call 43; refine (hC _ t1).mono ?_; rintro e w2 ⟨rfl, R2, t2⟩; clear hC)
          | (go_at_call 29; refine (hFi _ R2).mono ?_; rintro e w3 ⟨rfl, b3⟩; clear hFi))
        have HTC : Hid (Tch T w w3) := hid (((t1.mono (fun _ h => h.elim)).trans (t2.mono (fun j hj => by rw [hj]; exact hTr))).trans (Tch.of_below b3))
        have R3 := R2.below b3
        clear R2 t1 t2 b3
        have hT3 : ∀ j, w3.heap.size ≤ j → T j := fun j hj => HTT.out j (Nat.le_trans HTC.out.size hj)
        have CELL := hid (fun wx (hb : Below w3.heap.size w3 wx) => (⟨held_cell ((Tch.of_below (S := fun _ => False) hb).row R3.r_ (fun h => h)) rfl, held_frozen ((Tch.of_below (S := fun _ => False) hb).row R3.r_ (fun h => h))⟩ : wx.cell? ⟨r, 4, none⟩ = some (.slice A xs.length cp) ∧ wx.frozen? ⟨r, 4, none⟩ = false))
        have hs1 : ∀ wx, (Instr.slice 45 (.slice A xs.length cp) none (some (.int .i64 (ix : Int))) none).run Try.prog wx = .ok (sliced A 0 ix cp 2) wx := fun wx => run_topO (hi := ix) (by omega) wx
        have hs2 : ∀ wx, (Instr.slice 45 (.slice A xs.length cp) (some (.int .i64 ((ix : Int) + 1))) none none).run Try.prog wx = .ok (sliced A (ix + 1) xs.length cp 2) wx := fun wx => by
          have := run_fromO (A := A) (n := xs.length) (c := cp) (s := ix + 1) (by omega) wx
          simpa using this
        have r1 := R3.lo.rd.part 0 ix (by omega) (by omega)
        have r2 := R3.lo.rd.part (ix + 1) xs.length (by omega) (Nat.le_refl _)
        rw [Nat.sub_zero, List.drop_zero] at r1
        rw [List.take_of_length_le (by rw [List.length_drop]; omega)] at r2
        change KRO.Rd w3 (sliced A 0 ix cp 2) _ at r1
        change KRO.Rd w3 (sliced A (ix + 1) xs.length cp 2) _ at r2
        generalize sliced A 0 ix cp 2 = v1 at *
        generalize sliced A (ix + 1) xs.length cp 2 = v2 at *
        have HOB := hid R3.ob
        have ht1 : (xs.take ix).length ≤ 4096 := by rw [List.length_take]; omega
        have ht2 : (xs.drop (ix + 1)).length ≤ 4096 := by rw [List.length_drop]; omega
        have HO2 := hid (fun (wx : World) (bx : Below w3.heap.size w3 wx) => ((R3.below bx).ob.take ix).app ((R3.below bx).ob.drop (ix + 1)))
        generalize xs.take ix = x1 at *
        generalize xs.drop (ix + 1) = x2 at *
        have d5 : Below w3.heap.size w3 w3.drew := (Below.refl _ _).drew
        have dA : Below w3.heap.size w3 (w3.alloc (.cells #[] 74)).drew := ((Below.refl _ w3).alloc (Nat.le_refl _) _).drew
        have mA := Kd.own_empty (K := KRO) (w := (w3.alloc (.cells #[] 74)).drew) (heap_alloc_new w3 (.cells #[] 74)) (B := w3.heap.size) (Nat.le_refl _)
        obtain ⟨q1, q2⟩ := CELL.out _ d5
        obtain ⟨q3, q4⟩ := CELL.out _ dA
        have HR3 := hid R3
        clear R3 HOB
        go_cut [4] (fun _ wx => ∃ lv8 ys, Hid (Rf wx T r lv8 cv ys { askS M with L := rcut M.L ix }) ∧ Hid (Tch T w wx))
        case first =>
          go_region_law (first
            | (refine Kd.step_app (K := KRO) (w := (w3.alloc (.cells #[] 74)).drew) rfl (.tmp 32) (.tmp 38) 45 rfl Try.underlying45 infoRO rfl w3.heap.size (.slice (some ⟨w3.heap.size, 0, none⟩) 0 0) v1 [] x1 rfl mA rfl (r1.below dA) (by simp; unfold maxLen; omega) (by simp; omega) dA.size ?_; intro v6 w6 o6 b6 g6; have c6 := dA.trans b6; obtain ⟨q5, q6⟩ := CELL.out _ c6)
            | (refine Kd.step_app (K := KRO) rfl (.tmp 39) (.tmp 46) 45 rfl Try.underlying45 infoRO rfl w3.heap.size _ v2 _ x2 rfl o6 rfl (r2.below c6) (by simp; unfold maxLen; omega) (by simp; omega) c6.size ?_; intro v7 w7 o7 b7 g7; have c7 := c6.trans b7; obtain ⟨q7, q8⟩ := CELL.out _ c7; obtain ⟨A7, k7, hv7, _⟩ := o7.rd.form; subst hv7))
          all_goals (
            have S8 := HR3.out.setL (M' := { askS M with L := rcut M.L ix }) c7 hT3 o7 (HO2.out _ c7) rfl rfl
            simp only [List.nil_append, List.length_append] at S8
            have T8 : Hid (Tch T w (w7.setCell ⟨r, 4, none⟩ (.slice A7 (x1.length + x2.length) k7))) := hid ((HTC.out.trans (Tch.of_below c7)).trans (Tch.set _ _ ⟨r, 4, none⟩ _ hTr))
            go_wp2_with fail
            go_meet
            exact ⟨_, _, hid S8, T8⟩)
        case rest =>
          obtain ⟨lv8, ys, S8h, T8⟩ := hcut
          have S8 := S8h.out
          generalize wc = w8 at *
          have d8 : Below w8.heap.size w8 w8.drew := (Below.refl _ _).drew
          have S9 := S8.below d8
          have e1 : w8.drew.cell? ⟨r, 5, none⟩ = some cv := held_cell S9.r_ rfl
          have e2 : w8.drew.cell? ⟨r, 1, none⟩ = some (.int .i64 (M.now : Int)) := held_cell S9.r_ rfl
          have S9a := S9.below ((Below.refl _ w8.drew).alloc (Nat.le_refl _) (.cells #[.string k, .int .i64 (M.now : Int), .bool false] 84))
          have e3 : (w8.drew.alloc (.cells #[.string k, .int .i64 (M.now : Int), .bool false] 84)).cell? ⟨r, 5, none⟩ = some cv := held_cell S9a.r_ rfl
          have e4 : (w8.drew.alloc (.cells #[.string k, .int .i64 (M.now : Int), .bool false] 84)).cell? ⟨r, 1, none⟩ = some (.int .i64 (M.now : Int)) := held_cell S9a.r_ rfl
          obtain ⟨v9, w9, hrun, e5, e6, HS⟩ := S9.append (fun j hj => HTT.out j (Nat.le_trans T8.out.size hj)) ⟨M.now, k, false⟩ hlc (M' := { askS M with L := rcut M.L ix, ch := M.ch ++ [⟨M.now, k, false⟩] }) rfl rfl rfl
          have e7 : ((w8.alloc (.cells #[.string k, .int .i64 (M.now : Int), .bool false] 84)).drew).cell? ⟨r, 5, none⟩ = some cv := e3
          have e8 : ((w8.alloc (.cells #[.string k, .int .i64 (M.now : Int), .bool false] 84)).drew).cell? ⟨r, 1, none⟩ = some (.int .i64 (M.now : Int)) := e4
          have hrun2 : (Builtin.append_ #[46, 46] 46 #[cv, .slice (some ⟨w8.heap.size, 0, none⟩) 1 1]).run Try.prog ((w8.alloc (.cells #[.string k, .int .i64 (M.now : Int), .bool false] 84)).drew) = .ok v9 w9 := hrun
          obtain ⟨A8, k8, hv8, _⟩ := HS.out.1.ch.rd.form
          obtain ⟨Ac, kc, hvc, _⟩ := S9.ch.rd.form
          subst hvc hv8
          have hz : (M.ch ++ [(⟨M.now, k, false⟩ : Chg)]).length = M.ch.length + 1 := by simp
          rw [hz] at HS hrun hrun2
          clear hz
          have T9 := hid (T8.out.trans (Tch.of_below d8))
          clear S8 S8h S9 S9a T8 d8
          go_wp2_with fail
          go_region_law (refine step_run_app rfl (.tmp 54) (.tmp 61) 46 rfl _ _ _ w9 rfl rfl (by first | exact hrun2 | exact hrun) ?_)
          all_goals (
            go_wp2_with fail
            go_ret
            exact ⟨rfl, ⟨_, _, _, HS.out.1⟩, T9.out.trans HS.out.2⟩)
end Go.Proofs.Ytcohpgahffbnlaa
