/-
  The reference's queries in memory, and the program's made of them. Conditions: those that each theorem names.
  A query made of the reference's; whether two are the same; which the reference lets be. Conditions: those that each theorem names.
-/
import Derived.Test.YtlhodanpfpfodaaGreatDoorMKno
import Derived.Test.YtlhodanpfpfodaaGreatDoorGood
namespace Go.Proofs.YtlhodanpfpfodaaGreatDoor
open Go.RowKit Go.Icz
def KR : Kd Mt := { e := 63, z := 3, enc := fun m => [.string ⟨m.name.toArray⟩, .int .i64 m.op, .string ⟨m.val.toArray⟩], len := fun _ => rfl, pos := by decide, one := fun m u hu => (by
    simp only [List.mem_cons, List.not_mem_nil, or_false] at hu
    rcases hu with h | h | h <;> rw [h] <;> rfl) }
theorem KR_at {w : World} {A : Option Addr} {n c : Nat} {l : List Mt} (h : KR.Rd w (.slice A n c) l) {j : Nat} (hj : j < l.length) :
    ∃ b off, A = some ⟨b, off, none⟩ ∧ b < w.heap.size ∧ w.cell? ⟨b, off + j * 3, none⟩ = some (.string ⟨(l[j]).name.toArray⟩) ∧ w.cell? ⟨b, off + j * 3 + 1, none⟩ = some (.int .i64 (l[j]).op) ∧ w.cell? ⟨b, off + j * 3 + 2, none⟩ = some (.string ⟨(l[j]).val.toArray⟩) := by
  obtain ⟨b, off, hA, hb, hc⟩ := h.at hj
  exact ⟨b, off, hA, hb, hc 0 _ (by decide) rfl, hc 1 _ (by decide) rfl, hc 2 _ (by decide) rfl⟩
set_option maxHeartbeats 4000000 in
set_option maxRecDepth 100000 in
theorem Matches_is (v0 : Value) (ms : List Mt) (w : World) (hR : KR.Rd w v0 ms) (hm : ms.length ≤ 1099511627776) :
    Calls Tryz.prog 54 #[v0] w fun e w' => ∃ v, e = .returned v ∧ KM.Own w' w.heap.size v ms ∧ Below w.heap.size w w' := by
  obtain ⟨A, c, rfl, hc⟩ := hR.form
  go_enter Tryz.func54, Tryz.ntmps54
  go_wp2_with fail
  go_loopw [3, 4] (fun vv iv wr => ∃ i : Nat, iv = .int .i64 i ∧ i ≤ ms.length ∧ KM.Own wr w.heap.size vv (ms.take i) ∧ Below w.heap.size w wr) (fun _ iv _ => ms.length - (intOf iv).toNat)
  case atStart => exact ⟨0, rfl, by omega, by rw [List.take_zero]; exact Kd.Own.nil _ _, Below.refl _ _⟩
  case round =>
    obtain ⟨i, rfl, hi, hown, hbw⟩ := hrel
    by_cases hlt : i < ms.length
    · obtain ⟨b, off, rfl, hb, c0, c1, c2⟩ := KR_at hR hlt
      rw [← hbw.cell (p := ⟨b, off + i * 3, none⟩) hb] at c0
      rw [← hbw.cell (p := ⟨b, off + i * 3 + 1, none⟩) hb] at c1
      rw [← hbw.cell (p := ⟨b, off + i * 3 + 2, none⟩) hb] at c2
      have HT : Hid (ms.take (i + 1) = ms.take i ++ [ms[i]]) := hid (by rw [List.take_add_one, List.getElem?_eq_getElem hlt]; simp only [Option.toList_some])
      have hil : (ms.take i).length ≤ 1099511627776 := by rw [List.length_take]; omega
      clear hR
      generalize ms[i] = x at *
      obtain ⟨nm, op, vl⟩ := x
      simp only [] at c0 c1 c2
      have hwz := hbw.size
      have mkS : ∀ w' : World, Below w.heap.size wr w' → Below w.heap.size wr w' ∧ w'.cell? ⟨b, off + i * 3, none⟩ = some (.string ⟨nm.toArray⟩) ∧ w'.cell? ⟨b, off + i * 3 + 1, none⟩ = some (.int .i64 op) ∧ w'.cell? ⟨b, off + i * 3 + 2, none⟩ = some (.string ⟨vl.toArray⟩) := fun w' h =>
        ⟨h, (h.cell (p := ⟨b, off + i * 3, none⟩) hb).trans c0, (h.cell (p := ⟨b, off + i * 3 + 1, none⟩) hb).trans c1, (h.cell (p := ⟨b, off + i * 3 + 2, none⟩) hb).trans c2⟩
      have hk := mkS wr.drew (Below.refl _ wr).drew
      have own0 : ∀ o, KM.Own (wr.drew.alloc o) w.heap.size u3 (ms.take i) := fun o => (hown.below (Below.refl _ wr).drew).alloc o
      generalize ms.take i = acc at *
      go_wp2_with fail
      go_region_held3 (fun w' => Below w.heap.size wr w' ∧ w'.cell? ⟨b, off + i * 3, none⟩ = some (.string ⟨nm.toArray⟩) ∧ w'.cell? ⟨b, off + i * 3 + 1, none⟩ = some (.int .i64 op) ∧ w'.cell? ⟨b, off + i * 3 + 2, none⟩ = some (.string ⟨vl.toArray⟩)) (first | exact hk | exact mkS _ (hk.1.alloc (Nat.le_trans hwz hk.1.size) _))
        ((refine Kd.step_appm (K := KM) rfl (.tmp 11) (.tmp 28) 38 rfl Tryz.underlying38 infoMt rfl w.heap.size u3 acc [⟨nm, op, vl⟩] (by simp [Act.eval]) (own0 _) wr.heap.size 1 rfl (by omega) (heap_alloc_new wr.drew _) (by simp [Act.eval]) (by unfold maxLen; omega) (by omega) (by simp; omega) ?_; intro v4 w4 o4 b4 g4; have hbb : Below w.heap.size wr w4 := ((Below.refl _ wr).drew.alloc hwz _).trans b4; have hk := mkS _ hbb))
      go_wp2_with fail
      go_roundw
      case rel => exact ⟨i + 1, by go_num, by omega, by rw [HT.out]; exact o4, hbw.trans hbb⟩
      case measure => simp [intOf]; omega
    · have e : ms.take i = ms := List.take_of_length_le (by omega)
      rw [e] at hown
      go_wp2_with fail
      go_ret
      exact ⟨_, rfl, hown, hbw⟩
end Go.Proofs.YtlhodanpfpfodaaGreatDoor
namespace Go.Proofs.YtlhodanpfpfodaaGreatDoor
open Go.RowKit Go.Icz
theorem query_res : Tryz.f22.results = #[.cell 2 40] := rfl
set_option maxHeartbeats 4000000 in
set_option maxRecDepth 100000 in
theorem Query_is (v0 : Value) (q : Qy) (w : World) (hR : KR.Rd w v0 q.ms) (hm : q.ms.length ≤ 1099511627776) :
    Calls Tryz.prog 22 #[qryV v0 q] w fun e w' => ∃ v, e = .returned (qryV v q) ∧ KM.Own w' w.heap.size v q.ms ∧ Below w.heap.size w w' := by
  obtain ⟨A, c, rfl, hc⟩ := hR.form
  unfold qryV
  have hM := fun w1 (hb : Below w.heap.size w w1) => Matches_is _ q.ms w1 (hR.below hb) hm
  go_enter Tryz.func22, Tryz.ntmps22
  go_wp2_with fail
  have rb : ((w.alloc (.cells #[.slice A q.ms.length c, .string ⟨q.has.toArray⟩, .int .i64 q.fr, .int .i64 q.upto, .int .i64 q.lim, .bool q.newest] 37)).alloc (.cells zeroC 40)).heap[w.heap.size]? = some (.cells #[.slice A q.ms.length c, .string ⟨q.has.toArray⟩, .int .i64 q.fr, .int .i64 q.upto, .int .i64 q.lim, .bool q.newest] 37 (0, 0)) :=
    (heap_alloc_old _ _ (by simp)).trans (heap_alloc_new w _)
  have rr : ((w.alloc (.cells #[.slice A q.ms.length c, .string ⟨q.has.toArray⟩, .int .i64 q.fr, .int .i64 q.upto, .int .i64 q.lim, .bool q.newest] 37)).alloc (.cells zeroC 40)).heap[w.heap.size + 1]? = some (.cells zeroC 40 (0, 0)) := by
    have := heap_alloc_new (w.alloc (.cells #[.slice A q.ms.length c, .string ⟨q.has.toArray⟩, .int .i64 q.fr, .int .i64 q.upto, .int .i64 q.lim, .bool q.newest] 37)) (.cells zeroC 40)
    simpa using this
  have bb : Below w.heap.size w ((w.alloc (.cells #[.slice A q.ms.length c, .string ⟨q.has.toArray⟩, .int .i64 q.fr, .int .i64 q.upto, .int .i64 q.lim, .bool q.newest] 37)).alloc (.cells zeroC 40)).drew := (((Below.refl _ w).alloc (Nat.le_refl _) _).alloc (by simp) _).drew
  have mkS : ∀ w' : World, w'.heap[w.heap.size]? = some (.cells #[.slice A q.ms.length c, .string ⟨q.has.toArray⟩, .int .i64 q.fr, .int .i64 q.upto, .int .i64 q.lim, .bool q.newest] 37 (0, 0)) → w'.heap[w.heap.size]? = some (.cells #[.slice A q.ms.length c, .string ⟨q.has.toArray⟩, .int .i64 q.fr, .int .i64 q.upto, .int .i64 q.lim, .bool q.newest] 37 (0, 0)) ∧ w'.cell? ⟨w.heap.size, 0, none⟩ = some (.slice A q.ms.length c) ∧ w'.cell? ⟨w.heap.size, 1, none⟩ = some (.string ⟨q.has.toArray⟩) ∧ w'.cell? ⟨w.heap.size, 2, none⟩ = some (.int .i64 q.fr) ∧ w'.cell? ⟨w.heap.size, 3, none⟩ = some (.int .i64 q.upto) ∧ w'.cell? ⟨w.heap.size, 4, none⟩ = some (.int .i64 q.lim) ∧ w'.cell? ⟨w.heap.size, 5, none⟩ = some (.bool q.newest) := fun w' h => ⟨h, six_cells h⟩
  have hk := mkS ((w.alloc (.cells #[.slice A q.ms.length c, .string ⟨q.has.toArray⟩, .int .i64 q.fr, .int .i64 q.upto, .int .i64 q.lim, .bool q.newest] 37)).alloc (.cells zeroC 40)).drew rb
  unfold zeroC at hk
  go_region_held3 (fun w' => w'.heap[w.heap.size]? = some (.cells #[.slice A q.ms.length c, .string ⟨q.has.toArray⟩, .int .i64 q.fr, .int .i64 q.upto, .int .i64 q.lim, .bool q.newest] 37 (0, 0)) ∧ w'.cell? ⟨w.heap.size, 0, none⟩ = some (.slice A q.ms.length c) ∧ w'.cell? ⟨w.heap.size, 1, none⟩ = some (.string ⟨q.has.toArray⟩) ∧ w'.cell? ⟨w.heap.size, 2, none⟩ = some (.int .i64 q.fr) ∧ w'.cell? ⟨w.heap.size, 3, none⟩ = some (.int .i64 q.upto) ∧ w'.cell? ⟨w.heap.size, 4, none⟩ = some (.int .i64 q.lim) ∧ w'.cell? ⟨w.heap.size, 5, none⟩ = some (.bool q.newest)) (first | with_reducible exact hk | with_reducible exact hk6)
    ((go_at_call 54; refine (hM _ bb).mono ?_; rintro e w3 ⟨v, rfl, o3, b3⟩; obtain ⟨Av, cv, rfl, _⟩ := o3.rd.form; have r3 := (b3.block _ (by simp)).trans rr; obtain ⟨z0, z1, z2, z3, z4, z5, y0, y1, y2, y3, y4, y5⟩ := zero_facts r3; have hk := mkS w3 ((b3.block _ (by simp; omega)).trans hk.1); have bb3 := bb.trans (b3.mono bb.size); have hk6 := mkS ((((((w3.setCell ⟨w.heap.size + 1, 0, none⟩ (.slice Av q.ms.length cv)).setCell ⟨w.heap.size + 1, 1, none⟩ (.string ⟨q.has.toArray⟩)).setCell ⟨w.heap.size + 1, 2, none⟩ (.int .i64 q.fr)).setCell ⟨w.heap.size + 1, 3, none⟩ (.int .i64 q.upto)).setCell ⟨w.heap.size + 1, 4, none⟩ (.int .i64 q.lim)).setCell ⟨w.heap.size + 1, 5, none⟩ (.bool q.newest)) (by rw [six_eq]; exact Tch.row (six_tch _ _ _ _ _ _ _ _) hk.1 (by omega))))
  go_wp2_with fail
  rw [six_eq]
  have k6 := six_tch w3 (w.heap.size + 1) (.slice Av q.ms.length cv) (.string ⟨q.has.toArray⟩) (.int .i64 q.fr) (.int .i64 q.upto) (.int .i64 q.lim) (.bool q.newest)
  refine bodyPost_ret (results_cell_row query_res _ _ (w.heap.size + 1) 40 _ _ _ rfl (six_row r3 (.slice Av q.ms.length cv) (.string ⟨q.has.toArray⟩) (.int .i64 q.fr) (.int .i64 q.upto) (.int .i64 q.lim) (.bool q.newest)) Tryz.underlying40 rfl (by kernel_rfl)) rfl ?_
  have ol := o3.lt
  exact ⟨.slice Av q.ms.length cv, rfl, (o3.touch k6 (fun j hj e => by have := ol j e; simp at this; omega)).mono bb.size, Tch.below bb3 k6 (fun j hj => by omega) bb3.size⟩
end Go.Proofs.YtlhodanpfpfodaaGreatDoor
