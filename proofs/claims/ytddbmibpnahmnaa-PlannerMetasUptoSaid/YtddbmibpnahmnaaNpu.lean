/-
  What the reference's Bytes and Put of a Meta answer. Condition: none but that the Meta is one.
-/
import Derived.Test.YtddbmibpnahmnaaNpt
namespace Go.Proofs.Ytddbmibpnahmnaa
open Go.RowKit Go.Icz
set_option maxHeartbeats 4000000 in
set_option maxRecDepth 100000 in
theorem RBytes_is (x : MV) (hr : rightM x = true) (w : World) : Calls Try.prog 27 #[metaV x] w fun e w' => ∃ A c, e = .returned (.slice A (metaB x).length c) ∧ Own w' w.heap.size (.slice A (metaB x).length c) (metaB x) ∧ Below w.heap.size w w' := by
  have b0 : Below w.heap.size w (w.alloc (.cells #[.int .i64 x.id, .int .i64 x.least, .int .i64 x.most, .int .i64 x.first, .int .i64 x.last, .int .i64 x.rows, .int .i64 x.bytes, .int .i64 x.level] 32)) := (Below.refl _ w).alloc (Nat.le_refl _) _
  have z0 : (w.alloc (.cells #[.int .i64 x.id, .int .i64 x.least, .int .i64 x.most, .int .i64 x.first, .int .i64 x.last, .int .i64 x.rows, .int .i64 x.bytes, .int .i64 x.level] 32)).heap.size = w.heap.size + 1 := World.size_alloc _ _
  have hok := part_ok hr
  have P8 : (partM x).length = 8 := rfl
  have hw1 : IntKind.i64.wrap (x.most - x.least) = x.most - x.least := by have := rt_iff.1 hr; have := this.mo1; have := (rt_iff.1 hr).mo2; have := (rt_iff.1 hr).le1; rw [IntKind.wrap_i64]; omega
  have hw2 : IntKind.i64.wrap (x.last - x.first) = x.last - x.first := by have := (rt_iff.1 hr).la1; have := (rt_iff.1 hr).la2; have := (rt_iff.1 hr).fi1; rw [IntKind.wrap_i64]; omega
  have HP : Hid (metaB x = numsB ((partM x).take 8)) := hid (by rw [List.take_of_length_le (by rw [P8]; decide)]; rfl)
  have HI : intsV (partM x) = #[.int .i64 x.id, .int .i64 x.least, .int .i64 (x.most - x.least), .int .i64 x.first, .int .i64 (x.last - x.first), .int .i64 x.rows, .int .i64 x.bytes, .int .i64 x.level] := rfl
  unfold metaV
  generalize partM x = P at *
  have HIH := hid HI
  have HOK := hid hok
  have HP8 := hid P8
  clear HI hok P8 hr
  go_enter Try.func27, Try.ntmps27
  go_wp2
  rw [← HIH.out]
  have rI := heap_alloc_new (w.alloc (.cells #[.int .i64 x.id, .int .i64 x.least, .int .i64 x.most, .int .i64 x.first, .int .i64 x.last, .int .i64 x.rows, .int .i64 x.bytes, .int .i64 x.level] 32)) (.cells (intsV P) 3)
  have bA := b0.alloc b0.size (.cells (intsV P) 3)
  have zA : ((w.alloc (.cells #[.int .i64 x.id, .int .i64 x.least, .int .i64 x.most, .int .i64 x.first, .int .i64 x.last, .int .i64 x.rows, .int .i64 x.bytes, .int .i64 x.level] 32)).alloc (.cells (intsV P) 3)).heap.size = w.heap.size + 2 := by rw [World.size_alloc, World.size_alloc]
  rw [z0] at rI
  generalize (w.alloc (.cells #[.int .i64 x.id, .int .i64 x.least, .int .i64 x.most, .int .i64 x.first, .int .i64 x.last, .int .i64 x.rows, .int .i64 x.bytes, .int .i64 x.level] 32)).alloc (.cells (intsV P) 3) = wA at *
  have HB := hid bA
  have HZ := hid zA
  have HRI := hid rI
  clear b0 z0 bA zA rI
  go_loopw [5, 3] (fun iv bv wr => ∃ i : Nat, iv = .int .i64 i ∧ i ≤ 8 ∧ Own wr (w.heap.size + 2) bv (numsB (P.take i)) ∧ Hid (Below wA.heap.size wA wr)) (fun iv _ _ => 8 - (intOf iv).toNat)
  case atStart => exact ⟨0, rfl, by omega, Own.nil _ _, hid (Below.refl _ _)⟩
  case round =>
    obtain ⟨i, rfl, hi, hO, HBw⟩ := hrel
    have HR : Hid (wr.heap[w.heap.size + 1]? = some (.cells (intsV P) 3 (0, 0))) := hid ((Tch.of_below HBw.out (S := fun _ => False)).row HRI.out (fun h => h))
    by_cases hLt : i < 8
    · have hil : (i : Int) < 8 := by omega
      have hPl : i < P.length := by rw [HP8.out]; exact hLt
      have cI := ints_cell HR.out hPl
      have hn0 := (HOK.out P[i] (List.getElem_mem hPl)).1
      have hn1 := (HOK.out P[i] (List.getElem_mem hPl)).2
      have hN := Bytes_any (P[i]).toNat wr (by omega)
      have hT := numsB_take hPl
      have hlb : (numsB (P.take i)).length ≤ 64 := by
        have := numsB_len (P.take i) (fun n hn => by have := HOK.out n (List.mem_of_mem_take hn); omega)
        have := List.length_take_le i P
        omega
      have hnb : (num (P[i]).toNat).length ≤ 8 := num_bd (by omega)
      rw [Int.toNat_of_nonneg hn0] at hN
      have HL := hid hLt
      have HF : Hid (∀ w3 v3, Own w3 (w.heap.size + 2) v3 (numsB (P.take i) ++ num (P[i]).toNat) → Own w3 (w.heap.size + 2) v3 (numsB (P.take (i + 1)))) := hid (fun w3 v3 h => by rw [hT]; exact h)
      have hsz := HBw.out.size
      have hz2 := HZ.out
      have hB2 : w.heap.size + 2 ≤ wr.heap.size := by omega
      obtain ⟨A0, c0, rfl, _, _⟩ := id hO.rd
      clear hT hLt hsz hz2
      generalize P[i] = nn at *
      generalize numsB (P.take i) = L0 at *
      go_wp2_with (first
        | (go_at_call 41; refine hN.mono ?_; rintro e w2 ⟨v2, rfl, o2, b2⟩; obtain ⟨A2, c2, rfl, _, _⟩ := id o2.rd; clear hN)
        | (at_builtin; refine wp_appR std rfl (.tmp 35) (.tmp 40) rfl (w.heap.size + 2) _ _ L0 (num nn.toNat) rfl (hO.below b2) rfl o2.rd (by omega) (Nat.le_trans hB2 b2.size) ?_; intro v3 w3 o3 b3))
      go_roundw
      case rel => exact ⟨i + 1, by go_num, by have := HL.out; omega, HF.out _ _ o3, hid ((HBw.out.trans (b2.mono HBw.out.size)).trans (b3.mono (Nat.le_of_eq HZ.out)))⟩
      case measure => have := HL.out; simp [intOf]; omega
    · have hie : i = 8 := by omega
      subst hie
      have HQ : Hid (numsB (P.take 8) = metaB x) := hid HP.out.symm
      clear HP hLt
      generalize numsB (P.take 8) = L8 at *
      have HO := hid hO
      obtain ⟨A0, c0, rfl, _, _⟩ := id hO.rd
      clear hO
      go_wp2
      go_ret
      have hm := HQ.out
      subst hm
      have := HB.out
      exact ⟨A0, c0, rfl, Own.mono (B := w.heap.size + 2) (B' := w.heap.size) HO.out (by omega), this.trans (HBw.out.mono this.size)⟩
set_option maxHeartbeats 4000000 in
set_option maxRecDepth 100000 in
theorem RPut_is (x : MV) (w : World) : Calls Try.prog 14 #[metaV x] w fun e w' => ∃ v, e = .returned (.tuple #[v, .int .i64 (if rightM x = true then 0 else 1)]) ∧ Own w' w.heap.size v (if rightM x = true then metaB x else []) ∧ Below w.heap.size w w' := by
  have hR := fun w1 => RRight_is x w1
  have k0 := box_row w #[.int .i64 x.id, .int .i64 x.least, .int .i64 x.most, .int .i64 x.first, .int .i64 x.last, .int .i64 x.rows, .int .i64 x.bytes, .int .i64 x.level] 32
  have b0 : Below w.heap.size w (w.alloc (.cells #[.int .i64 x.id, .int .i64 x.least, .int .i64 x.most, .int .i64 x.first, .int .i64 x.last, .int .i64 x.rows, .int .i64 x.bytes, .int .i64 x.level] 32)) := (Below.refl _ w).alloc (Nat.le_refl _) _
  cases hr : rightM x
  · rw [hr] at hR
    unfold metaV at hR ⊢
    go_enter Try.func14, Try.ntmps14
    go_wp2_with (go_at_call 16; refine (hR _).mono ?_; rintro e w1 ⟨rfl, b1⟩)
    go_ret2
    exact ⟨_, rfl, Own.nil _ _, b0.trans (b1.mono b0.size)⟩
  · have hB := fun w1 => RBytes_is x hr w1
    rw [hr] at hR
    obtain ⟨mb, hmb⟩ : ∃ mb, mb = metaB x := ⟨_, rfl⟩
    rw [← hmb] at hB
    have HM := hid hmb
    unfold metaV at hR hB ⊢
    clear hr hmb
    go_enter Try.func14, Try.ntmps14
    go_wp2_with (first
      | (go_at_call 16; refine (hR _).mono ?_; rintro e w1 ⟨rfl, b1⟩; have k1 := (Tch.of_below b1 (S := fun _ => False)).row k0 (fun h => h); have q0 := held_cell (i := 0) k1 rfl; have q1 := held_cell (i := 1) k1 rfl; have q2 := held_cell (i := 2) k1 rfl; have q3 := held_cell (i := 3) k1 rfl; have q4 := held_cell (i := 4) k1 rfl; have q5 := held_cell (i := 5) k1 rfl; have q6 := held_cell (i := 6) k1 rfl; have q7 := held_cell (i := 7) k1 rfl; clear hR)
      | (go_at_call 27; refine (hB _).mono ?_; rintro e w2 ⟨A2, c2, rfl, o2, b2⟩; clear hB))
    go_ret2
    have hm := HM.out
    subst hm
    have hbb := b0.trans (b1.mono b0.size)
    exact ⟨_, rfl, Own.mono (B := w1.heap.size) (B' := w.heap.size) o2 hbb.size, hbb.trans (b2.mono hbb.size)⟩
end Go.Proofs.Ytddbmibpnahmnaa
