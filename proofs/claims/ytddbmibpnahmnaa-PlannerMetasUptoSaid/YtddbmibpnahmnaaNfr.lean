/-
  Which lists are fine, and what Look and Over answer: the reference's. Conditions: the list is no longer than 2^40; a number is one that an int holds.
-/
import Derived.Test.YtddbmibpnahmnaaNfi
namespace Go.Icz
open Go.RowKit
theorem bdN {B : Nat} {a w : World} (h : Below B a w) (n : Nat) : Below B a (w.drewN n) := ⟨h.os, h.tape, h.output, h.size, h.block⟩
theorem ids_take {l : List MV} {i k : Nat} (hk : k < l.length) (hki : k < i) : l[k].id ∈ idsM (l.take i) := by
  unfold idsM
  rw [List.mem_map]
  exact ⟨l[k], by rw [List.mem_take_iff_getElem]; exact ⟨k, by omega, rfl⟩, rfl⟩
theorem ids_not {l : List MV} {i : Nat} {z : Int} (hi : i ≤ l.length) (h : ∀ j (hj : j < l.length), j < i → l[j].id ≠ z) : z ∉ idsM (l.take i) := by
  unfold idsM
  rw [List.mem_map]
  rintro ⟨x, hx, e⟩
  rw [List.mem_take_iff_getElem] at hx
  obtain ⟨j, hj, rfl⟩ := hx
  exact h j (by omega) (by omega) e
end Go.Icz
namespace Go.Proofs.Ytddbmibpnahmnaa
open Go.RowKit Go.Icz
set_option maxRecDepth 100000 in
set_option maxHeartbeats 4000000 in
theorem RFine_is (v : Value) (l : List MV) (w : World) (hR : KRm.Rd w v l) (hlen : l.length ≤ 1099511627776) :
    Calls Try.prog 9 #[v] w fun e w' => e = .returned (.bool (fineM l)) ∧ Below w.heap.size w w' := by
  obtain ⟨A, c, rfl, hlc⟩ := hR.form
  have ROW := hid (met_row (K := KRm) rfl rfl hR)
  clear hR
  go_enter Try.func9, Try.ntmps9
  go_wp2
  go_loopw [3] (fun iv wr => ∃ i : Nat, iv = .int .i64 i ∧ i ≤ l.length ∧ Hid (FinT (l.take i)) ∧ Below w.heap.size w wr) (fun iv _ => l.length - (intOf iv).toNat)
  case atStart => exact ⟨0, rfl, by omega, hid (by simp [FinT, idsM]), Below.refl _ _⟩
  case round =>
    obtain ⟨i, rfl, hi, HF, hbw⟩ := hrel
    by_cases hLt : i < l.length
    · obtain ⟨b, off, hA, hb, hc⟩ := ROW.out i hLt
      have hA2 := hid hA
      subst hA
      obtain ⟨q0, q1, q2, q3, q4, q5, q6, q7⟩ := hc wr hbw
      have HC := hid hc
      have hil : (i : Int) < (l.length : Int) := by omega
      have HL := hid hLt
      have HNO : Hid (rightM l[i] = false ∨ l[i].id ∈ idsM (l.take i) → fineM l = false) := hid (fine_no hLt)
      have HYES : Hid (rightM l[i] = true → l[i].id ∉ idsM (l.take i) → FinT (l.take (i + 1))) := hid (fun h1 h2 => (fin_step hLt).2 ⟨HF.out, h1, h2⟩)
      have HIDS : Hid (∀ k (hk : k < l.length), k < i → l[k].id = l[i].id → l[i].id ∈ idsM (l.take i)) := hid (fun k hk hki e => by rw [← e]; exact ids_take hk hki)
      have HIDN : Hid ((∀ j (hj : j < l.length), j < i → l[j].id ≠ l[i].id) → l[i].id ∉ idsM (l.take i)) := hid (fun h => ids_not (by omega) h)
      have hRt := RRight_is l[i]
      clear hc HF
      generalize hxx : l[i] = x at *
      have HXX := hid hxx
      clear hxx
      unfold metaV at hRt
      cases hr : rightM x with
      | false =>
        have HN := hid (HNO.out (.inl hr))
        rw [hr] at hRt
        clear HNO HYES hr
        go_wp2_with (go_at_call 16; refine (hRt _).mono ?_; rintro e w7 ⟨rfl, b7⟩)
        go_ret
        exact ⟨by rw [HN.out]; rfl, hbw.trans (b7.mono hbw.size)⟩
      | true =>
        rw [hr] at hRt
        have HRR := hid hr
        clear hr
        clear q0 q1 q2 q3 q4 q5 q6 q7
        obtain ⟨q0, q1, q2, q3, q4, q5, q6, q7⟩ := HC.out wr hbw
        go_wp2_with (go_at_call 16; refine (hRt _).mono ?_; rintro e w7 ⟨rfl, b7⟩)
        have b8 := hbw.trans (b7.mono hbw.size)
        go_loopw [4] (fun kv ws => ∃ k : Nat, kv = .int .i64 k ∧ k ≤ i ∧ Hid (∀ j (hj : j < l.length), j < k → l[j].id ≠ x.id) ∧ Below w.heap.size w ws) (fun kv _ => i - (intOf kv).toNat)
        case atStart => exact ⟨0, rfl, by omega, hid (fun j hj h => by omega), b8⟩
        case round =>
          obtain ⟨k, rfl, hk, HK, hb2⟩ := hrel
          by_cases hki : k < i
          · obtain ⟨b2, off2, hA3, hb3, hc2⟩ := ROW.out k (by omega)
            injection hA3 with hA3
            injection hA3 with e1 e2
            subst e1 e2
            have p0 := (HC.out wr hb2).c0
            have r0 := (hc2 wr hb2).c0
            have hkl : (k : Int) < (l.length : Int) := by omega
            have hki2 : (k : Int) < (i : Int) := by omega
            have HEQ : Hid (l[k].id = x.id → fineM l = false) := hid (fun e => HNO.out (.inr (HIDS.out k (by omega) hki e)))
            have HNX : Hid (l[k].id ≠ x.id → ∀ j (hj : j < l.length), j < k + 1 → l[j].id ≠ x.id) := hid (fun e j hj hjk => by
              by_cases ej : j = k
              · subst ej; exact e
              · exact HK.out j hj (by omega))
            have HKI := hid hki
            clear hc2 HK HRR hRt q0 q1 q2 q3 q4 q5 q6 q7
            generalize l[k] = y at *
            by_cases he : y.id = x.id
            · have HN := hid (HEQ.out he)
              clear HEQ HNX
              have hd : (y.id == x.id) = true := by simpa using he
              rw [he] at r0
              go_wp2_with fail
              go_quiet (fail)
              go_wp2_with fail
              go_ret
              exact ⟨by rw [HN.out]; rfl, bdN hb2 _⟩
            · have HN := hid (HNX.out he)
              have hd : (y.id == x.id) = false := by simpa using he
              clear HEQ HNX
              go_wp2_with fail
              go_quiet (fail)
              go_wp2_with fail
              go_roundw
              case rel => exact ⟨k + 1, by go_num, HKI.out, HN, bdN hb2 _⟩
              case measure => have := HKI.out; simp [intOf]; omega
          · have hke : ¬ (k : Int) < (i : Int) := by omega
            have HN := hid (HYES.out HRR.out (HIDN.out (fun j hj hji => HK.out j hj (by omega))))
            clear HNO HYES HIDS HIDN HK HRR hRt
            go_wp2
            go_roundw
            case rel => exact ⟨i + 1, by go_num, HL.out, HN, hb2⟩
            case measure => have := HL.out; simp [intOf]; omega
    · have HY : Hid (fineM l = true) := hid (fine_yes (by omega) HF.out)
      have hil : ¬ (i : Int) < (l.length : Int) := by omega
      clear HF
      go_wp2
      go_ret
      exact ⟨by rw [HY.out]; rfl, hbw⟩
end Go.Proofs.Ytddbmibpnahmnaa
