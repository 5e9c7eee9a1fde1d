/-
  The law's once. Conditions: those that each theorem names.
-/
import Derived.Test.YtcffagfkpkfgbaaMbo
namespace Go.Proofs.Ytcffagfkpkfgbaa
open Go.RowKit Go.Icz Go.Maps
set_option maxHeartbeats 4000000 in
set_option maxRecDepth 100000 in
theorem once_is (v : Value) (l : List EV) (W : World) (hR : KEnt.Rd W v l) (hg : ∀ x ∈ l, wfI x.1.seq) (hlen : l.length ≤ 1099511627776) :
    Calls Try.prog 6 #[v] W fun e w' => ∃ u, e = .returned u ∧ KEnt.Own w' W.heap.size u (outs kyV [] l) ∧ Below W.heap.size W w' := by
  have hMM := @run_makeMap Try.prog
  obtain ⟨A, c, rfl, hlc⟩ := hR.form
  have hM0 := MBo.made W
  have hb0 : Below W.heap.size W (W.alloc (.map #[] 0)) := (Below.refl _ W).alloc (Nat.le_refl _) _
  have hz0 : (W.alloc (.map #[] 0)).heap.size = W.heap.size + 1 := World.size_alloc _ _
  go_enter Try.func6, Try.ntmps6
  go_wp2
  generalize hW1 : W.alloc (.map #[] 0) = W1 at *
  go_loopw [4, 5] (fun ov iv wr => ∃ (i : Nat) (M : List EV) (met : List Int), iv = .int .i64 i ∧ i ≤ l.length ∧ KEnt.Own wr W1.heap.size ov M ∧ MBo wr W.heap.size met ∧ Hid (M ++ outs kyV met (l.drop i) = outs kyV [] l ∧ M.length ≤ i ∧ met.length ≤ i) ∧ Below W.heap.size W wr ∧ W1.heap.size ≤ wr.heap.size) (fun _ iv _ => l.length - (intOf iv).toNat)
  case atStart => exact ⟨0, [], [], rfl, by omega, Kd.Own.nil _ _, hM0, hid ⟨by simp, Nat.le_refl _, Nat.le_refl _⟩, hb0, Nat.le_refl _⟩
  case round =>
    obtain ⟨i, M, met, rfl, hi, ho, hM, HM, hbw, hsz⟩ := hrel
    by_cases hLt : i < l.length
    · have HD : Hid (l.drop i = l[i] :: l.drop (i + 1)) := hid (List.drop_eq_getElem_cons hLt)
      have hil : (i : Int) < (l.length : Int) := by omega
      have HIL := hid hLt
      obtain ⟨b, off, hA, hb, hcell⟩ := hR.at hLt
      subst hA
      have hwx := hg _ (List.getElem_mem hLt)
      have CQ : ∀ w2, Below W.heap.size W w2 → w2.cell? ⟨b, off + i * 4, none⟩ = some (.int .i64 (l[i]).1.seq) ∧ w2.cell? ⟨b, off + i * 4 + 1, none⟩ = some (.int .i64 (l[i]).1.time) ∧ w2.cell? ⟨b, off + i * 4 + 2, none⟩ = some (.slice (l[i]).2.1 (l[i]).1.labs.length (l[i]).2.2) ∧ w2.cell? ⟨b, off + i * 4 + 3, none⟩ = some (.string ⟨(l[i]).1.line.toArray⟩) := fun w2 hw => by
        have q := fun j u hj hu => (hw.cell (p := ⟨b, off + (i * 4 + j), none⟩) hb).trans (hcell j u hj hu)
        exact ⟨q 0 _ (by decide) rfl, q 1 _ (by decide) rfl, q 2 _ (by decide) rfl, q 3 _ (by decide) rfl⟩
      clear hcell hR hg hM0 hb0
      generalize l[i] = x at *
      obtain ⟨q0, q1, q2, q3⟩ := CQ _ hbw
      have lk := hM.look x.1.seq hwx
      by_cases hmet : x.1.seq ∈ met
      · rw [decide_eq_true hmet] at lk
        have HM2 : Hid (M ++ outs kyV met (l.drop (i + 1)) = outs kyV [] l ∧ M.length ≤ i + 1 ∧ met.length ≤ i + 1) := hid (by
          have h1 := HM.out
          rw [HD.out, outs_in kyV (show (kyV x).2 ∈ met from hmet)] at h1
          exact ⟨h1.1, by omega, by omega⟩)
        clear HM HD q1 q2 q3
        go_wp2
        go_roundw
        case rel => exact ⟨i + 1, M, met, by go_num, HIL.out, ho, hM, HM2, hbw, hsz⟩
        case measure => have := HIL.out; simp [intOf]; omega
      · rw [decide_eq_false hmet] at lk
        have hml : met.length < maxLen := by have := HM.out.2.2; have := HIL.out; unfold maxLen; omega
        have hmm : M.length + 1 ≤ maxLen := by have := HM.out.2.1; have := HIL.out; unfold maxLen; omega
        have hby : (M.length + 1) * 56 ≤ 140737488355328 := by have := HM.out.2.1; have := HIL.out; omega
        obtain ⟨w6, hst, s6, t6⟩ := hM.store x.1.seq hwx hml
        have HM2 : Hid ((M ++ [x]) ++ outs kyV (x.1.seq :: met) (l.drop (i + 1)) = outs kyV [] l ∧ (M ++ [x]).length ≤ i + 1 ∧ (x.1.seq :: met).length ≤ i + 1) := hid (by
          have h1 := HM.out
          rw [HD.out, outs_out kyV (show ¬ (kyV x).2 ∈ met from hmet)] at h1
          refine ⟨by rw [← h1.1, List.append_assoc]; rfl, by rw [List.length_append]; simp; omega, by simp; omega⟩)
        have b6 : Below W.heap.size W w6 := Tch.below hbw t6 (fun j e => by rw [e]; exact Nat.le_refl _) hbw.size
        obtain ⟨y0, y1, y2, y3⟩ := CQ _ b6
        have o6 := ho.touch t6 (fun k e e2 => by have := (ho.lt k e2).1; omega)
        have hz6 : W1.heap.size ≤ w6.heap.size := Nat.le_trans hsz t6.size
        clear HM HD CQ ho
        go_wp2_with (at_builtin; refine Kd.wp_app1 (K := KEnt) rfl (.tmp 27) (.tmp 32) 22 rfl Try.underlying22 infoE rfl W1.heap.size _ M x rfl o6 rfl rfl rfl hmm hby hz6 ?_; intro v5 w5 o5 b5 g5 n5)
        have s7 := (s6.touch (Tch.alloc (fun _ => False) _ (.cells #[.int .i64 x.1.seq, .int .i64 x.1.time, .slice x.2.1 x.1.labs.length x.2.2, .string ⟨x.1.line.toArray⟩] 34)) (fun h => h)).touch (Tch.grown (S := fun k => some k ≠ some W.heap.size) g5 (fun k e => by intro e2; injection e2 with e2; subst e2; have := (o6.lt _ e).1; omega)) (fun h => h rfl)
        go_roundw
        case rel => exact ⟨i + 1, M ++ [x], x.1.seq :: met, by go_num, HIL.out, o5, s7, HM2, b6.trans (b5.mono (by omega)), Nat.le_trans hz6 b5.size⟩
        case measure => have := HIL.out; simp [intOf]; omega
    · obtain rfl : i = l.length := by omega
      have HM2 : Hid (M = outs kyV [] l) := hid (by have := HM.out.1; rwa [List.drop_length, show outs kyV met [] = [] from rfl, List.append_nil] at this)
      obtain ⟨Ao, co, rfl, _⟩ := ho.rd.form
      clear HM hR hg
      go_wp2
      go_ret
      exact ⟨_, rfl, by rw [← HM2.out]; exact ho.mono (by omega), hbw⟩
end Go.Proofs.Ytcffagfkpkfgbaa
