/-
  What the reference's Print of labels answers: labels as a text. Conditions: the list can be read; sizes as the theorem names.
-/
import Derived.Test.YthgmmloocdfphaaGreatDoorRefRight
import Derived.Test.YthgmmloocdfphaaGreatDoorRQuote
import Derived.Test.YthgmmloocdfphaaGreatDoorPrint
import Derived.Deep.RegionHeld3
namespace Go.Proofs.YthgmmloocdfphaaGreatDoor
open Go.RowKit Go.Icz
theorem quoteS_le (l : B8) : (quoteS l).length ≤ 6 * l.length + 2 := by
  have h := quoteS_len l
  omega
set_option maxHeartbeats 4000000 in
set_option maxRecDepth 100000 in
theorem R2Print_is (v : Value) (l : List Lab) (w : World) (hR : RdL w v l) (hm : l.length ≤ 4611686018427387904) (hsz : ∀ x ∈ l, x.1.length ≤ 1048576 ∧ x.2.length ≤ 1048576) :
    Calls Tryz.prog 14 #[v] w fun e w' => e = .returned (.string ⟨(printS l).toArray⟩) ∧ Below w.heap.size w w' := by
  have HR := RefRight_is v l w hR hm (fun x hx => by have := hsz x hx; omega)
  obtain ⟨A, c, rfl, hlc, hcell⟩ := hR
  cases hr : rightS l with
  | false =>
    have HX : Hid (printS l = []) := hid (by unfold printS; rw [hr]; rfl)
    rw [hr] at HR
    clear hcell hsz
    go_enter Tryz.func14, Tryz.ntmps14
    go_wp2_with (go_at_call 45; refine HR.mono ?_; rintro e w1 ⟨rfl, b1⟩)
    go_ret
    exact ⟨by rw [HX.out]; rfl, b1⟩
  | true =>
    have HX : Hid (printS l = [123] ++ pbody [] l ++ [125]) := hid (by unfold printS; rw [hr]; rfl)
    have h16 := (right_all hr).1
    rw [hr] at HR
    have t0 := True.intro
    go_enter Tryz.func14, Tryz.ntmps14
    go_wp2_with (clear t0; go_at_call 45; refine HR.mono ?_; rintro e w1 ⟨rfl, b1⟩; clear HR)
    go_loopw [3, 4] (fun sv iv wr => ∃ (i : Nat) (P : B8) (sb : ByteArray), iv = .int .i64 i ∧ sv = .string sb ∧ i ≤ l.length ∧ Below w.heap.size w wr ∧ sb.size ≤ 1 + 8388608 * i ∧ Hid (sb.data.toList = [123] ++ P ∧ pbody [] l = P ++ pbody (if i = 0 then [] else [44, 32]) (l.drop i))) (fun _ iv _ => l.length - (intOf iv).toNat)
    case atStart => exact ⟨0, [], _, rfl, rfl, by omega, b1, by simp [ByteArray.size], hid ⟨rfl, by simp⟩⟩
    case round =>
      obtain ⟨i, P, sb, rfl, rfl, hi, hbw, hsb, HP⟩ := hrel
      by_cases hlt : i < l.length
      · obtain ⟨b, off, rfl, hb, hcell⟩ := hcell (by omega)
        have hc0 := (hbw.cell (p := ⟨b, off + i * 2, none⟩) hb).trans (hcell i hlt).1
        have hc1 := (hbw.cell (p := ⟨b, off + i * 2 + 1, none⟩) hb).trans (hcell i hlt).2
        have hx := hsz l[i] (List.getElem_mem hlt)
        have hdrop : l.drop i = l[i] :: l.drop (i + 1) := List.drop_eq_getElem_cons hlt
        have hq := quoteS_le (l[i]).2
        clear hcell hsz
        generalize l[i] = x at *
        obtain ⟨nm, vl⟩ := x
        simp only at hc0 hc1 hx hq
        have HQ := fun w => RQuote_is ⟨vl.toArray⟩ w (by rw [Lib.size_mk]; omega)
        simp only [] at HQ
        have HN : ∀ (bt : B8) (sb' : ByteArray), bt = (if i = 0 then [] else [44, 32]) → sb'.data.toList = sb.data.toList ++ bt ++ nm ++ [61] ++ quoteS vl → Hid (sb'.data.toList = [123] ++ (P ++ bt ++ nm ++ [61] ++ quoteS vl) ∧ pbody [] l = (P ++ bt ++ nm ++ [61] ++ quoteS vl) ++ pbody (if i + 1 = 0 then [] else [44, 32]) (l.drop (i + 1))) := fun bt sb' hbt he => hid (by
          obtain ⟨h1, h2⟩ := HP.out
          refine ⟨by rw [he, h1]; simp, ?_⟩
          rw [h2, hdrop, ← hbt, if_neg (by omega)]
          simp [pbody])
        have hnz : (⟨nm.toArray⟩ : ByteArray).size = nm.length := Lib.size_mk nm
        have hqz : (⟨(quoteS vl).toArray⟩ : ByteArray).size = (quoteS vl).length := Lib.size_mk _
        have mkS : ∀ w', Below w.heap.size w w' → Below wr.heap.size wr w' → Below w.heap.size w w' ∧ w'.cell? ⟨b, off + i * 2, none⟩ = some (.string ⟨nm.toArray⟩) ∧ w'.cell? ⟨b, off + i * 2 + 1, none⟩ = some (.string ⟨vl.toArray⟩) := fun w' h1 h2 => ⟨h1, (h2.cell (p := ⟨b, off + i * 2, none⟩) (Nat.lt_of_lt_of_le hb hbw.size)).trans hc0, (h2.cell (p := ⟨b, off + i * 2 + 1, none⟩) (Nat.lt_of_lt_of_le hb hbw.size)).trans hc1⟩
        have hk := mkS wr.drew hbw.drew (Below.refl _ wr).drew
        have hbq : (quoteS vl).length ≤ 6291458 := by omega
        have hbn := hx.1
        clear hdrop hq hx HP
        have hnz2 : (⟨nm.toArray⟩ : ByteArray).size ≤ 1048576 := by omega
        have hqz2 : (⟨(quoteS vl).toArray⟩ : ByteArray).size ≤ 6291458 := by omega
        clear hnz hqz hbn hbq
        generalize hqd : quoteS vl = q at *
        generalize hnb : (⟨nm.toArray⟩ : ByteArray) = nb at *
        generalize hqb : (⟨q.toArray⟩ : ByteArray) = qb at *
        have hnd : Hid (nb.data.toList = nm) := hid (by rw [← hnb])
        have hqd2 : Hid (qb.data.toList = q) := hid (by rw [← hqb])
        clear hnb hqb hqd
        have v1 : ¬ 9223372036854775807 < sb.size + nb.size := by omega
        have v2 : ¬ 9223372036854775807 < sb.size + nb.size + 1 := by omega
        have v3 : ¬ 9223372036854775807 < sb.size + nb.size + 1 + qb.size := by omega
        have u0 : ¬ 9223372036854775807 < sb.size + 2 := by omega
        have u1 : ¬ 9223372036854775807 < sb.size + 2 + nb.size := by omega
        have u2 : ¬ 9223372036854775807 < sb.size + 2 + nb.size + 1 := by omega
        have u3 : ¬ 9223372036854775807 < sb.size + 2 + nb.size + 1 + qb.size := by omega
        by_cases h0 : i = 0
        · have h0' : ¬ (0 : Int) < i := by omega
          have HN2 := HN [] (sb ++ nb ++ { data := #[61] } ++ qb) (by rw [if_pos h0]) (by simp [hnd.out, hqd2.out])
          clear HN hnd hqd2 h0
          go_wp2_with fail
          go_region_held3 (fun w' => Below w.heap.size w w' ∧ w'.cell? ⟨b, off + i * 2, none⟩ = some (.string nb) ∧ w'.cell? ⟨b, off + i * 2 + 1, none⟩ = some (.string ⟨vl.toArray⟩)) (exact hk)
            (first | (go_at_call 46; refine (HQ _).mono ?_; rintro e w3 ⟨rfl, b3⟩; have hk := mkS _ (hk.1.trans (b3.mono hk.1.size)) ((Below.refl _ wr).drew.trans b3); clear HQ))
          go_wp2_with fail
          have hz : (sb ++ nb ++ { data := #[61] } ++ qb).size = sb.size + nb.size + 1 + qb.size := by rw [ByteArray.size_append, ByteArray.size_append, ByteArray.size_append]; rfl
          exact ⟨⟨i + 1, _, _, by go_num, rfl, by omega, hk.1, by rw [hz]; omega, HN2⟩, by simp [intOf]; omega⟩
        · have h0' : (0 : Int) < i := by omega
          have HN2 := HN [44, 32] (sb ++ { data := #[44, 32] } ++ nb ++ { data := #[61] } ++ qb) (by rw [if_neg h0]) (by simp [hnd.out, hqd2.out])
          clear HN hnd hqd2 h0
          go_wp2_with fail
          go_region_held3 (fun w' => Below w.heap.size w w' ∧ w'.cell? ⟨b, off + i * 2, none⟩ = some (.string nb) ∧ w'.cell? ⟨b, off + i * 2 + 1, none⟩ = some (.string ⟨vl.toArray⟩)) (exact hk)
            (first | (go_at_call 46; refine (HQ _).mono ?_; rintro e w3 ⟨rfl, b3⟩; have hk := mkS _ (hk.1.trans (b3.mono hk.1.size)) ((Below.refl _ wr).drew.trans b3); clear HQ))
          go_wp2_with fail
          have hz : (sb ++ { data := #[44, 32] } ++ nb ++ { data := #[61] } ++ qb).size = sb.size + 2 + nb.size + 1 + qb.size := by rw [ByteArray.size_append, ByteArray.size_append, ByteArray.size_append, ByteArray.size_append]; rfl
          exact ⟨⟨i + 1, _, _, by go_num, rfl, by omega, hk.1, by rw [hz]; omega, HN2⟩, by simp [intOf]; omega⟩
      · have HN : Hid (sb ++ { data := #[125] } = (⟨(printS l).toArray⟩ : ByteArray)) := hid (by
          obtain ⟨h1, h2⟩ := HP.out
          rw [List.drop_of_length_le (by omega)] at h2
          have e : (sb ++ { data := #[125] } : ByteArray).data.toList = printS l := by
            rw [HX.out, h2]
            have h3 : pbody (if i = 0 then [] else [44, 32]) [] = [] := by split <;> rfl
            rw [h3]
            simp [h1]
          rw [← e, mk_data])
        have v1 : ¬ 9223372036854775807 < sb.size + 1 := by omega
        clear HP HX hcell hsz
        go_wp2_with fail
        go_ret
        exact ⟨by rw [← HN.out]; rfl, hbw⟩
end Go.Proofs.YthgmmloocdfphaaGreatDoor
