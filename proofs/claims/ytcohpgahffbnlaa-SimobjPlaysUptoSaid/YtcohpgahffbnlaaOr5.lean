/-
  The reference's List and Get. Conditions: those that each theorem names.
-/
import Derived.Test.YtcohpgahffbnlaaOr4
namespace Go.Icz
open Go.RowKit
theorem lwi_length (l : List ByteArray) (x : ByteArray) : (lwi l x).length ≤ l.length + 1 := by
  unfold lwi
  have h1 := lwo_length l x
  have h2 := lpl_le (lwo l x) x
  simp only [List.length_append, List.length_take, List.length_drop, List.length_singleton]
  omega
theorem lapl_length (l : List Chg) : (lapl l).length ≤ l.length := by
  refine snoc_rec (P := fun l => (lapl l).length ≤ l.length) (Nat.le_refl _) (fun l c h => ?_) l
  rw [lapl_snoc, List.length_append, List.length_singleton]
  unfold lap1
  split
  · have := lwi_length (lapl l) c.k; omega
  · have := lwo_length (lapl l) c.k; omega
theorem filter_one (f : ByteArray → Bool) {L : List ByteArray} {j : Nat} (h : j < L.length) : (L.take (j + 1)).filter f = (L.take j).filter f ++ (if f L[j] then [L[j]] else []) := by
  rw [(List.take_append_getElem h).symm, List.filter_append]
  congr 1
  by_cases e : f L[j] = true
  · rw [if_pos e, List.filter_cons_of_pos e]; rfl
  · rw [if_neg e, List.filter_cons_of_neg e]; rfl
def repI (M : SM) (i : Nat) : List ByteArray := lapl ((M.ch.take i).filter fun c => !lateB M c)
theorem repI_step {M : SM} {i : Nat} (h : i < M.ch.length) : repI M (i + 1) = if lateB M M.ch[i] then repI M i else lap1 (repI M i) M.ch[i] := by
  unfold repI
  rw [(List.take_append_getElem h).symm, List.filter_append]
  cases hl : lateB M M.ch[i]
  · simp only [List.filter_cons, hl, Bool.not_false, if_true, List.filter_nil, Bool.false_eq_true, if_false]
    rw [lapl_snoc]
  · simp [List.filter_cons, hl]
theorem repI_length (M : SM) (i : Nat) : (repI M i).length ≤ M.ch.length := by
  unfold repI
  refine Nat.le_trans (lapl_length _) (Nat.le_trans (List.length_filter_le _ _) ?_)
  rw [List.length_take]
  omega
end Go.Icz
namespace Go.Proofs.Ytcohpgahffbnlaa
open Go.RowKit Go.Icz Go.Maps Go.ChangeMaps Go.MapKept
set_option maxRecDepth 100000
set_option maxHeartbeats 4000000
theorem krc_at {w : World} {B : Nat} {v : Value} {l : List Chg} (h : KRC.Own w B v l) : ∃ A c, v = .slice A l.length c ∧ (0 < l.length → ∃ b off, A = some ⟨b, off, none⟩ ∧ b < w.heap.size ∧ ∀ j (hj : j < l.length), w.cell? ⟨b, off + j * 3, none⟩ = some (.string l[j].k) ∧ w.cell? ⟨b, off + j * 3 + 1, none⟩ = some (.int .i64 (l[j].t : Int)) ∧ w.cell? ⟨b, off + j * 3 + 2, none⟩ = some (.bool l[j].c)) := by
  obtain ⟨A, c, hv, _, hr⟩ := h.rd
  refine ⟨A, c, hv, fun h0 => ?_⟩
  obtain ⟨b, off, hA, hlt, hc⟩ := hr h0
  refine ⟨b, off, hA, hlt, fun j hj => ⟨?_, ?_, ?_⟩⟩
  · exact hc (j * 3 + 0) _ (KRC.cells_get l j hj 0 (by decide))
  · rw [Nat.add_assoc]
    exact hc (j * 3 + 1) _ (KRC.cells_get l j hj 1 (by decide))
  · rw [Nat.add_assoc]
    exact hc (j * 3 + 2) _ (KRC.cells_get l j hj 2 (by decide))
variable {w : World} {T : Nat → Prop} {r : Nat} {lv cv : Value} {xs : List OV} {M : SM} {c : Nat}
theorem RList_is (h : Rf w T r lv cv xs M) (hwf : WfS M c) (hT : ∀ k, w.heap.size ≤ k → T k) (p : ByteArray) (hp : p.size ≤ 9223372036854775807) (hkz : ∀ x ∈ M.ch, x.k.size ≤ 64) :
    Calls Try.prog 22 #[.pointer (some ⟨r, 0, none⟩), .string p] w fun e w' => ∃ v, e = .returned (.tuple #[v, .int .i64 (listM M p).2.1]) ∧ KS.Own w' w.heap.size v (if begB p = false ∨ errS M ≠ 0 then [] else rlist M p) ∧ Rf w' T r lv cv xs (listM M p).2.2 ∧ Tch T w w' := by
  have hF := fine_is p w hp
  have hTr := h.tr
  cases hb : begB p
  · have e : listM M p = ([], 1, M) := by unfold listM; rw [if_pos hb]
    rw [hb] at hF
    have HQ := hid (fun w1 (t : Tch (fun _ => False) w w1) => h.far t (fun _ h => h.elim))
    rw [if_pos (.inl rfl), e]
    clear h e hb hwf
    go_enter Try.func22, Try.ntmps22
    go_wp2_with (go_at_call 42; refine hF.mono ?_; rintro e w1 ⟨rfl, t1⟩; clear hF)
    go_ret2
    exact ⟨_, rfl, Kd.Own.nil (K := KS) _ _, HQ.out _ t1, t1.mono (fun _ h => h.elim)⟩
  · rw [hb] at hF
    have hC := fun w1 (t : Tch (fun _ => False) w w1) => Rcall_is (h.far t (fun _ h => h.elim)) hwf
    by_cases he : errS M ≠ 0
    · have e : listM M p = ([], errS M, askS M) := by unfold listM; rw [if_neg (by rw [hb]; decide), if_pos he]
      rw [if_pos (.inr he), e]
      have hne : (errS M == 0) = false := by simpa using he
      generalize errS M = er at *
      generalize okS M = okk at *
      clear h e hb hwf
      go_enter Try.func22, Try.ntmps22
      go_wp2_with (first
        | (go_at_call 42; refine hF.mono ?_; rintro e w1 ⟨rfl, t1⟩; clear hF)
        | (go_at_call 43; refine (hC _ t1).mono ?_; rintro e w2 ⟨rfl, R2, t2⟩; clear hC))
      go_ret2
      exact ⟨_, rfl, Kd.Own.nil (K := KS) _ _, R2, (t1.mono (fun _ h => h.elim)).trans (t2.mono (fun j hj => by rw [hj]; exact hTr))⟩
    · have he : errS M = 0 := by simpa using he
      have e : listM M p = (rises (listed M p), 0, askS M) := by unfold listM; rw [if_neg (by rw [hb]; decide), if_neg (by rw [he]; decide)]
      rw [if_neg (by rw [he]; simp), e]
      rw [he] at hC
      generalize okS M = okk at *
      have hnw := hwf.nw
      have hlg : M.lag ≤ 100 := Nat.le_trans hwf.lg hwf.mo
      have hlc : M.ch.length ≤ 4194304 := Nat.le_trans hwf.lc hwf.hc
      have HCT := hid hwf.ct
      have HT := hid hT
      clear h e hb hwf he hT
      have hwl : IntKind.i64.wrap ((M.now : Int) - (M.lag : Int)) = (M.now : Int) - (M.lag : Int) := by rw [IntKind.wrap_i64]; omega
      go_enter Try.func22, Try.ntmps22
      go_wp2_with (first
        | (go_at_call 42; refine hF.mono ?_; rintro e w1 ⟨rfl, t1⟩; clear hF)
        | (go_at_call 43; refine (hC _ t1).mono ?_; rintro e w2 ⟨rfl, R2, t2⟩; clear hC))
      have t02 : Hid (Tch T w w2) := hid ((t1.mono (fun _ h => h.elim)).trans (t2.mono (fun j hj => by rw [hj]; exact hTr)))
      have hw2 : w.heap.size ≤ w2.heap.size := t02.out.size
      obtain ⟨Ac, cc, hcv, hat⟩ := krc_at R2.ch
      have hcl : (askS M).ch = M.ch := rfl
      rw [hcl] at hcv hat
      subst hcv
      have c5 : w2.cell? ⟨r, 5, none⟩ = some (.slice Ac M.ch.length cc) := held_cell R2.r_ rfl
      have c1 : w2.cell? ⟨r, 1, none⟩ = some (.int .i64 (M.now : Int)) := held_cell R2.r_ rfl
      have c2 : w2.cell? ⟨r, 2, none⟩ = some (.int .i64 (M.lag : Int)) := held_cell R2.r_ rfl
      have hrl := row_lt R2.r_
      have HR2 := hid R2
      clear R2 t1 t2 hcl
      go_loopw [8, 9] (fun v iv wr => ∃ i : Nat, iv = .int .i64 i ∧ i ≤ M.ch.length ∧ Hid (KS.Own wr w.heap.size v (repI M i)) ∧ Below w2.heap.size w2 wr) (fun _ iv _ => M.ch.length - (intOf iv).toNat)
      case atStart => exact ⟨0, rfl, Nat.zero_le _, hid (by unfold repI; exact Kd.Own.nil (K := KS) _ _), Below.refl _ _⟩
      case round =>
        obtain ⟨i, hiv, hi, HO, hb⟩ := hrel
        subst hiv
        have d5 := (hb.cell (p := ⟨r, 5, none⟩) hrl).trans c5
        by_cases hLt : i < M.ch.length
        · have hil : (i : Int) < (M.ch.length : Int) := by omega
          obtain ⟨b, off, hA, hlt, hcl⟩ := hat (by omega)
          subst hA
          obtain ⟨y1, y2, y3⟩ := hcl i hLt
          have x1 := (hb.cell (p := ⟨b, off + i * 3, none⟩) hlt).trans y1
          have x2 := (hb.cell (p := ⟨b, off + i * 3 + 1, none⟩) hlt).trans y2
          have x3 := (hb.cell (p := ⟨b, off + i * 3 + 2, none⟩) hlt).trans y3
          have HL := hid hLt
          have HS := hid (repI_step hLt)
          have hrz := repI_length M i
          have hlate : lateB M M.ch[i] = decide ((M.now : Int) - (M.lag : Int) < (M.ch[i].t : Int)) := by
            unfold lateB
            rw [Bool.eq_iff_iff, decide_eq_true_eq, decide_eq_true_eq]
            omega
          generalize M.ch[i] = ci at *
          generalize repI M i = acc at *
          have HO1 := HO
          obtain ⟨Aa, ca, hva, _⟩ := HO.out.rd.form
          subst hva
          have ba := (Below.refl wr.heap.size wr).alloc (Nat.le_refl _) (.cells #[.string ci.k, .int .i64 (ci.t : Int), .bool ci.c] 84)
          have HBA := hid (hb.alloc hb.size (.cells #[.string ci.k, .int .i64 (ci.t : Int), .bool ci.c] 84))
          have z1 := HBA.out.cell (p := ⟨r, 1, none⟩) hrl
          have z2 := HBA.out.cell (p := ⟨r, 2, none⟩) hrl
          rw [c1] at z1
          rw [c2] at z2
          have HW : Hid (∀ nq, Calls Try.prog 45 #[.slice Aa acc.length ca, .string ci.k] ((wr.alloc (.cells #[.string ci.k, .int .i64 (ci.t : Int), .bool ci.c] 84)).drewN nq) fun e w' => ∃ v', e = .returned v' ∧ KS.Own w' w.heap.size v' (lwi acc ci.k) ∧ Below w2.heap.size w2 w') := hid (fun nq => by
            have bn := HBA.out.trans ((show Below (wr.alloc (.cells #[.string ci.k, .int .i64 (ci.t : Int), .bool ci.c] 84)).heap.size (wr.alloc (.cells #[.string ci.k, .int .i64 (ci.t : Int), .bool ci.c] 84)) ((wr.alloc (.cells #[.string ci.k, .int .i64 (ci.t : Int), .bool ci.c] 84)).drewN nq) from ⟨rfl, rfl, rfl, Nat.le_refl _, fun _ _ => rfl⟩).mono HBA.out.size)
            have br := ba.trans ((show Below (wr.alloc (.cells #[.string ci.k, .int .i64 (ci.t : Int), .bool ci.c] 84)).heap.size (wr.alloc (.cells #[.string ci.k, .int .i64 (ci.t : Int), .bool ci.c] 84)) ((wr.alloc (.cells #[.string ci.k, .int .i64 (ci.t : Int), .bool ci.c] 84)).drewN nq) from ⟨rfl, rfl, rfl, Nat.le_refl _, fun _ _ => rfl⟩).mono ba.size)
            refine (with_is _ acc ci.k _ (HO1.out.rd.below br) (by omega)).mono ?_
            rintro e w5 ⟨v5, rfl, o5, b5⟩
            exact ⟨v5, rfl, o5.mono (Nat.le_trans hw2 bn.size), bn.trans (b5.mono bn.size)⟩)
          have HWo : Hid (∀ nq, Calls Try.prog 46 #[.slice Aa acc.length ca, .string ci.k] ((wr.alloc (.cells #[.string ci.k, .int .i64 (ci.t : Int), .bool ci.c] 84)).drewN nq) fun e w' => ∃ v', e = .returned v' ∧ KS.Own w' w.heap.size v' (lwo acc ci.k) ∧ Below w2.heap.size w2 w') := hid (fun nq => by
            have bn := HBA.out.trans ((show Below (wr.alloc (.cells #[.string ci.k, .int .i64 (ci.t : Int), .bool ci.c] 84)).heap.size (wr.alloc (.cells #[.string ci.k, .int .i64 (ci.t : Int), .bool ci.c] 84)) ((wr.alloc (.cells #[.string ci.k, .int .i64 (ci.t : Int), .bool ci.c] 84)).drewN nq) from ⟨rfl, rfl, rfl, Nat.le_refl _, fun _ _ => rfl⟩).mono HBA.out.size)
            have br := ba.trans ((show Below (wr.alloc (.cells #[.string ci.k, .int .i64 (ci.t : Int), .bool ci.c] 84)).heap.size (wr.alloc (.cells #[.string ci.k, .int .i64 (ci.t : Int), .bool ci.c] 84)) ((wr.alloc (.cells #[.string ci.k, .int .i64 (ci.t : Int), .bool ci.c] 84)).drewN nq) from ⟨rfl, rfl, rfl, Nat.le_refl _, fun _ _ => rfl⟩).mono ba.size)
            refine (without_is _ acc ci.k _ (HO1.out.rd.below br) (by omega)).mono ?_
            rintro e w5 ⟨v5, rfl, o5, b5⟩
            exact ⟨v5, rfl, o5.mono (Nat.le_trans hw2 bn.size), bn.trans (b5.mono bn.size)⟩)
          have HOA : Hid (∀ nq, KS.Own ((wr.alloc (.cells #[.string ci.k, .int .i64 (ci.t : Int), .bool ci.c] 84)).drewN nq) w.heap.size (.slice Aa acc.length ca) acc ∧ Below w2.heap.size w2 ((wr.alloc (.cells #[.string ci.k, .int .i64 (ci.t : Int), .bool ci.c] 84)).drewN nq)) := hid (fun nq => by
            have bq : Below (wr.alloc (.cells #[.string ci.k, .int .i64 (ci.t : Int), .bool ci.c] 84)).heap.size (wr.alloc (.cells #[.string ci.k, .int .i64 (ci.t : Int), .bool ci.c] 84)) ((wr.alloc (.cells #[.string ci.k, .int .i64 (ci.t : Int), .bool ci.c] 84)).drewN nq) := ⟨rfl, rfl, rfl, Nat.le_refl _, fun _ _ => rfl⟩
            exact ⟨(HO1.out.below ba).below bq, HBA.out.trans (bq.mono HBA.out.size)⟩)
          cases hl : lateB M ci
          · rw [hl] at hlate HS
            have dl : decide ((M.now : Int) - (M.lag : Int) < (ci.t : Int)) = false := hlate.symm
            cases hcc : ci.c
            · have HS2 : Hid (repI M (i + 1) = lwo acc ci.k) := hid (by rw [HS.out]; unfold lap1; rw [hcc]; rfl)
              rw [hcc] at x3 z1 z2 HWo
              clear hlate hl HS HW HOA ba HBA HO HO1 y1 y2 y3 hcl hcc hLt
              as_aux_lemma =>
                go_wp2
                go_quiet (fail)
                go_wp2_with (go_at_call 46; refine (HWo.out _).mono ?_; rintro e w5 ⟨v5, rfl, o5, b5⟩; clear HWo)
                go_roundw
                case rel => exact ⟨i + 1, by go_num, HL.out, hid (by rw [HS2.out]; exact o5), b5⟩
                case measure => have := HL.out; simp [intOf]; omega
            · have HS2 : Hid (repI M (i + 1) = lwi acc ci.k) := hid (by rw [HS.out]; unfold lap1; rw [hcc]; rfl)
              rw [hcc] at x3 z1 z2 HW
              clear hlate hl HS HWo HOA ba HBA HO HO1 y1 y2 y3 hcl hcc hLt
              as_aux_lemma =>
                go_wp2
                go_quiet (fail)
                go_wp2_with (go_at_call 45; refine (HW.out _).mono ?_; rintro e w5 ⟨v5, rfl, o5, b5⟩; clear HW)
                go_roundw
                case rel => exact ⟨i + 1, by go_num, HL.out, hid (by rw [HS2.out]; exact o5), b5⟩
                case measure => have := HL.out; simp [intOf]; omega
          · rw [hl] at hlate HS
            have dl : decide ((M.now : Int) - (M.lag : Int) < (ci.t : Int)) = true := hlate.symm
            have HS2 : Hid (repI M (i + 1) = acc) := hid (by rw [HS.out]; rfl)
            clear hlate hl HS HW HWo ba HBA HO HO1 y1 y2 y3 hcl hLt
            as_aux_lemma =>
              go_wp2
              go_quiet (fail)
              go_wp2
              go_roundw
              case rel => exact ⟨i + 1, by go_num, HL.out, hid (by rw [HS2.out]; exact (HOA.out _).1), (HOA.out _).2⟩
              case measure => have := HL.out; simp [intOf]; omega
        · have hil : ¬ (i : Int) < (M.ch.length : Int) := by omega
          have hie : i = M.ch.length := by omega
          have HE : Hid (repI M i = repM M) := hid (by unfold repI repM; rw [hie, List.take_length])
          rw [HE.out] at HO
          have hrz := repI_length M i
          rw [HE.out] at hrz
          obtain ⟨L, hL⟩ : ∃ L, L = repM M := ⟨_, rfl⟩
          rw [← hL] at HO hrz
          have HLr := hid hL
          obtain ⟨Aa, ca, hva, _⟩ := HO.out.rd.form
          subst hva
          clear hLt hie hL HE
          obtain ⟨B0, hB0⟩ : ∃ B0, B0 = wr.heap.size := ⟨_, rfl⟩
          have HB0 := hid hB0
          clear hB0
          go_wp2
          go_loopw [11, 12] (fun v jv wj => ∃ j : Nat, jv = .int .i64 j ∧ j ≤ L.length ∧ Hid (KS.Own wj B0 v ((L.take j).filter fun k => hasPre p k)) ∧ Hid (Below wr.heap.size wr wj)) (fun _ jv _ => L.length - (intOf jv).toNat)
          case atStart => exact ⟨0, rfl, Nat.zero_le _, hid (by simpa using Kd.Own.nil (K := KS) _ _), hid (Below.refl _ _)⟩
          case round =>
            obtain ⟨j, hjv, hj, HJ, hbj⟩ := hrel
            subst hjv
            by_cases hLt : j < L.length
            · have hjl : (j : Int) < (L.length : Int) := by omega
              have hOj := HO.out.below hbj.out
              obtain ⟨b, off, hA, _, _⟩ := ks_at hOj.rd (by omega)
              subst hA
              have x1 : wr.cell? ⟨b, off + j, none⟩ = some (Value.string L[j]) := by
                obtain ⟨b', o', hA, _, hc⟩ := ks_at hOj.rd (by omega)
                injection hA with hA
                injection hA with e1 e2 _
                subst e1 e2
                exact hc j hLt
              have HX := hid hLt
              have HE := hid (filter_one (fun k => hasPre p k) hLt)
              obtain ⟨acc, hacc⟩ : ∃ acc, acc = (L.take j).filter fun k => hasPre p k := ⟨_, rfl⟩
              have hal : acc.length ≤ j := by rw [hacc]; refine Nat.le_trans (List.length_filter_le _ _) ?_; rw [List.length_take]; omega
              rw [← hacc] at HJ HE
              have ho := HJ.out
              have hmm : acc.length + 1 ≤ maxLen := by have e1 : 8388608 ≤ maxLen := (by decide); omega
              have hml : (acc.length + 1) * 16 ≤ 140737488355328 := by omega
              have hz : B0 ≤ wr.heap.size := by rw [HB0.out]; exact hbj.out.size
              have hPE := pre_eq L[j] p
              have hPN := pre_no L[j] p
              generalize L[j] = kj at *
              clear hacc hLt HJ hal hOj
              by_cases hs : p.size ≤ kj.size
              · replace hPE := hPE hs
                have ds : (p.size : Int) ≤ (kj.size : Int) := by omega
                clear hPN
                cases hh : hasPre p kj
                · rw [hh] at hPE HE
                  rw [if_neg (by decide), List.append_nil] at HE
                  have HO2 := hid ho
                  clear hh ho hmm hml
                  as_aux_lemma =>
                    go_wp2
                    go_roundw
                    case rel => exact ⟨j + 1, by go_num, HX.out, hid (by rw [HE.out]; exact HO2.out), hbj⟩
                    case measure => have := HX.out; simp [intOf]; omega
                · rw [hh] at hPE HE
                  rw [if_pos rfl] at HE
                  clear hh
                  as_aux_lemma =>
                    go_wp2_with (at_builtin; refine Kd.wp_app1 (K := KS) rfl (.tmp 87) (.tmp 92) 51 rfl Try.underlying51 infoStrR rfl B0 _ acc kj rfl ho rfl rfl rfl hmm hml hz ?_; intro v6 w6 o6 b6 g6 n6)
                    go_roundw
                    case rel => exact ⟨j + 1, by go_num, HX.out, hid (by rw [HE.out]; exact o6), hid (hbj.out.trans (by rw [← HB0.out]; exact b6))⟩
                    case measure => have := HX.out; simp [intOf]; omega
              · replace hPN := hPN hs
                have ds : ¬ (p.size : Int) ≤ (kj.size : Int) := by omega
                clear hPE
                rw [hPN] at HE
                rw [if_neg (by decide), List.append_nil] at HE
                have HO2 := hid ho
                clear hPN ho hmm hml
                as_aux_lemma =>
                  go_wp2
                  go_roundw
                  case rel => exact ⟨j + 1, by go_num, HX.out, hid (by rw [HE.out]; exact HO2.out), hbj⟩
                  case measure => have := HX.out; simp [intOf]; omega
            · have hjl : ¬ (j : Int) < (L.length : Int) := by omega
              have hje : j = L.length := by omega
              have HF : Hid ((L.take j).filter (fun k => hasPre p k) = rlist M p) := hid (by rw [hje, List.take_length, HLr.out]; rfl)
              rw [HF.out] at HJ
              have HB3 := hid (hb.trans (hbj.out.mono hb.size))
              clear hLt hje
              go_wp2
              go_ret2
              exact ⟨_, rfl, HJ.out.mono (by rw [HB0.out]; exact Nat.le_trans hw2 hb.size), HR2.out.below HB3.out, t02.out.trans (Tch.mono (Tch.of_below (S := T) HB3.out) (fun _ h => h))⟩
end Go.Proofs.Ytcohpgahffbnlaa
