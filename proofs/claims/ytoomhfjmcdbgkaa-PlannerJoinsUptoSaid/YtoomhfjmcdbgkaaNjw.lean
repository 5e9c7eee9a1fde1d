/-
  PlannerJoins: what blocks make covers them all, has all their rows and bytes, and is the same in any order of them: the walk. Conditions: the list is no longer than 2^40; a number is one that an int holds.
-/
import Derived.Test.YtoomhfjmcdbgkaaNkn
import Derived.Test.YtoomhfjmcdbgkaaNjy
import Derived.Test.YtoomhfjmcdbgkaaNjm
import Derived.Test.YtoomhfjmcdbgkaaNrq
namespace Go.Proofs.Ytoomhfjmcdbgkaa
open Go.RowKit Go.Icz
set_option maxRecDepth 100000 in
theorem run_topM {A : Option Addr} {n c hi : Nat} (h2 : hi ≤ c) (wx : World) : (Instr.slice 25 (.slice A n c) none (some (.int .i64 (hi : Int))) none).run Try.prog wx = .ok (sliced A 0 hi c 8) wx := by
  have := run_slice_h (P := Try.prog) (w := wx) 25 A n c Try.underlying25 .i64 (hi : Int) (by omega) (by omega)
  rw [this]
  have hz : (sizeOf (Try.prog.elem 25)).run Try.prog wx = .ok 8 wx := by go_simp
  rw [hz]
  simp [Result.andThen]
/-- A row of zeros is none of a Meta's row whose first ID is not 0. -/
theorem own_far {w w' : World} {B b : Nat} {v : Value} {y : MV} {s : List MV} {vs : Array Value} (h : KMet.Own w B v ([] ++ (y :: s))) (hr : w.heap[b]? = some (.cells vs 28 (0, 0))) (hy : vs[0]? ≠ some (.int .i64 y.id)) (g : w.grownBy w' v.ownBlock) : w'.heap[b]? = some (.cells vs 28 (0, 0)) := by
  refine (Tch.grown g (S := fun k => v.ownBlock = some k) (fun k e => e)).row hr (fun hb => hy ?_)
  obtain ⟨A, c, rfl, _⟩ := h.rd.form
  obtain ⟨b2, off, hA, hb2, hc⟩ := Kd.Rd.at h.rd (j := 0) (by simp)
  rcases h.2 with ⟨hv, _⟩ | ⟨g2, cap, cur, hv, _⟩
  · injection hv with e1
    rw [hA] at e1
    cases e1
  · injection hv with e1
    rw [hA] at e1
    injection e1 with e1
    injection e1 with e1 e2
    subst e1 e2
    have hbb : b2 = b := by
      rw [hA] at hb
      simpa [Value.ownBlock] using hb
    subst hbb
    have h0 := hc 0 (.int .i64 y.id) (by decide) rfl
    rw [cell_of_row _ _ _ _ _ _ hr] at h0
    simpa using h0
set_option maxRecDepth 100000 in
set_option maxHeartbeats 8000000 in
theorem joins_no (v : Value) (l : List MV) (id k : Int) (W : World) (hR : KRm.Rd W v l) (hlen : l.length ≤ 1099511627776) (hwf : ∀ x ∈ l, wfI x.id) (hj : (joinM l id).2 = false) :
    Calls Try.prog 8 #[v, .int .i64 id, .int .i64 k] W fun e w' => e = .returned (.bool true) ∧ Below W.heap.size W w' := by
  have cList := List_is v l W hR hlen
  have cJ := fun u w1 (h : KMet.Rd w1 u l) => Joined_is u l id w1 h hlen hwf
  obtain ⟨p, hp⟩ : ∃ p, joinM l id = p := ⟨_, rfl⟩
  rw [hp] at cJ hj
  obtain ⟨m, ok⟩ := p
  simp only at hj
  subst hj
  obtain rfl := join_F hp
  have hq : ∀ w1, (binOp .eql 28 (metaV zeroM) (metaV zeroM)).run Try.prog w1 = .ok (.bool true) w1 := fun w1 => by rw [eql_meta, decide_eq_true rfl]
  unfold JoinOut metaV zeroM at cJ
  unfold metaV zeroM at hq
  simp only at cJ hq
  obtain ⟨A, c, rfl, _⟩ := hR.form
  clear hR hwf hp
  go_enter Try.func8, Try.ntmps8
  go_wp2_with (first
    | (go_at_call 10; go_loud (refine cList.mono ?_; rintro e wx ⟨ux, rfl, ox, hb⟩; have rx := ox.rd; obtain ⟨Ax, cx, rfl, _⟩ := rx.form; clear cList ox))
    | (go_at_call 29; go_loud (refine (cJ _ _ rx).mono ?_; rintro e wj ⟨rfl, bj⟩; have hb := hb.trans (bj.mono hb.size); have hba := below_box hb hb.size (.cells #[.int .i64 0, .int .i64 0, .int .i64 0, .int .i64 0, .int .i64 0, .int .i64 0, .int .i64 0, .int .i64 0] 28); clear cJ))
    | (go_at_call 22; go_loud (refine (knows_is _).mono ?_; rintro e w9 ⟨rfl, b9⟩; have hb9 := hba.trans (b9.mono hba.size))))
  go_ret
  exact ⟨rfl, hb9⟩
set_option maxRecDepth 100000 in
set_option maxHeartbeats 16000000 in
theorem joins_yes (v : Value) (l : List MV) (id k : Int) (m : MV) (W : World) (hR : KRm.Rd W v l) (hlen : l.length ≤ 1099511627776) (hwf : ∀ x ∈ l, wfI x.id) (hk : (Lit.int .i64 k).wf = true) (hj : joinM l id = (m, true)) :
    Calls Try.prog 8 #[v, .int .i64 id, .int .i64 k] W fun e w' => e = .returned (.bool true) ∧ Below W.heap.size W w' := by
  have cList := List_is v l W hR hlen
  have cJ := fun u w1 (h : KMet.Rd w1 u l) => Joined_is u l id w1 h hlen hwf
  have hJ2 := (fun u (q : List MV) w1 (h : KMet.Rd w1 u q) (e : q.Perm l) => (by have h9 := Joined_is u q id w1 h (by rw [e.length_eq]; exact hlen) (fun x hx => hwf x (e.subset hx)); rwa [join_perm e, hj] at h9 : Calls Try.prog 29 #[u, .int .i64 id] w1 (JoinOut w1 (m, true))))
  rw [hj] at cJ
  have HA := hid (join_A hj)
  have hq : ∀ w1, (binOp .eql 28 (metaV m) (metaV m)).run Try.prog w1 = .ok (.bool true) w1 := fun w1 => by rw [eql_meta, decide_eq_true rfl]
  unfold JoinOut metaV at cJ hJ2
  unfold metaV at hq
  simp only at cJ hq hJ2
  have HJ2 := hid hJ2
  clear hJ2
  obtain ⟨A, c, rfl, _⟩ := hR.form
  have hl0 : ((l.length : Int) == 0) = false := by
    have h1 : l.length ≠ 0 := fun h => HA.out.ne (List.eq_nil_of_length_eq_zero h)
    rw [beq_eq_false_iff_ne]
    omega
  have HL0 : Hid (0 < l.length) := hid (by have h1 : l.length ≠ 0 := fun h => HA.out.ne (List.eq_nil_of_length_eq_zero h); omega)
  have hkb := bounds_i64 hk
  clear hR hwf hj hk
  go_enter Try.func8, Try.ntmps8
  go_wp2_with (first
    | (go_at_call 10; go_loud (refine cList.mono ?_; rintro e wx ⟨ux, rfl, ox, hb⟩; have rx := ox.rd; obtain ⟨Ax, cx, rfl, _⟩ := rx.form; clear cList ox))
    | (go_at_call 29; go_loud (refine (cJ _ _ rx).mono ?_; rintro e wj ⟨rfl, bj⟩; have hb := hb.trans (bj.mono hb.size); have rxj := rx.below bj; clear cJ)))
  have r8 := box_row wj #[.int .i64 m.id, .int .i64 m.least, .int .i64 m.most, .int .i64 m.first, .int .i64 m.last, .int .i64 m.rows, .int .i64 m.bytes, .int .i64 m.level] 28
  have hba := below_box hb hb.size (.cells #[.int .i64 m.id, .int .i64 m.least, .int .i64 m.most, .int .i64 m.first, .int .i64 m.last, .int .i64 m.rows, .int .i64 m.bytes, .int .i64 m.level] 28)
  have rxa := rxj.alloc (.cells #[.int .i64 m.id, .int .i64 m.least, .int .i64 m.most, .int .i64 m.first, .int .i64 m.last, .int .i64 m.rows, .int .i64 m.bytes, .int .i64 m.level] 28)
  generalize wj.alloc (.cells #[.int .i64 m.id, .int .i64 m.least, .int .i64 m.most, .int .i64 m.first, .int .i64 m.last, .int .i64 m.rows, .int .i64 m.bytes, .int .i64 m.level] 28) = Wa at *
  have K8 : Hid (∀ wr, Below Wa.heap.size Wa wr → Mc wr wj.heap.size 0 m) := hid (fun wr hw => Mc.of_row ((Tch.of_below hw (S := fun _ => False)).row r8 (fun h => h)))
  have ROW := hid (met_row (K := KMet) rfl rfl rxa)
  clear r8 rx rxj
  go_loopw [10, 11, 12] (fun rv bv iv wr => ∃ (i : Nat) (z y : Int), rv = .int .i64 z ∧ bv = .int .i64 y ∧ iv = .int .i64 i ∧ i ≤ l.length ∧ Hid (z = sumR (l.take i)) ∧ Hid (y = sumB (l.take i)) ∧ Below Wa.heap.size Wa wr) (fun _ _ iv _ => l.length - (intOf iv).toNat)
  case atStart => exact ⟨0, 0, 0, rfl, rfl, rfl, by omega, hid (by simp [sumR]), hid (by simp [sumB]), Below.refl _ _⟩
  case round =>
    obtain ⟨i, z, yb, rfl, rfl, rfl, hi, HZ, HY, hbw⟩ := hrel
    by_cases hLt : i < l.length
    · obtain ⟨b, off, hA, hb3, hc⟩ := ROW.out i hLt
      subst hA
      obtain ⟨q0, q1, q2, q3, q4, q5, q6, q7⟩ := hc wr hbw
      obtain ⟨p0, p1, p2, p3, p4, p5, p6, p7⟩ := K8.out wr hbw
      rw [Nat.zero_add] at p1 p2 p3 p4 p5 p6 p7
      have hil : (i : Int) < (l.length : Int) := by omega
      have hmem := List.getElem_mem hLt
      have d1 : decide (l[i].least < m.least) = false := decide_eq_false (by have := HA.out.le _ hmem; omega)
      have d2 : decide (m.most < l[i].most) = false := decide_eq_false (by have := HA.out.mo _ hmem; omega)
      have d3 : decide (l[i].first < m.first) = false := decide_eq_false (by have := HA.out.fi _ hmem; omega)
      have d4 : decide (m.last < l[i].last) = false := decide_eq_false (by have := HA.out.la _ hmem; omega)
      have d5 : decide (m.level ≤ l[i].level) = false := decide_eq_false (by have := HA.out.lv _ hmem; omega)
      have hRT : ∀ y ∈ l, RtM y := fun y hy => rt_iff.1 (HA.out.fine.1 y hy)
      have hz1 := sumR_take hRT i
      have hy1 : 0 ≤ sumB (l.take i) ∧ sumB (l.take i) ≤ sumB l := ⟨sumB_nonneg (fun y hy => (hRT y (List.mem_of_mem_take hy)).by1), sumB_take (fun y hy => (hRT y hy).by1) i⟩
      have hrt := hRT _ hmem
      have hs1 := HA.out.ros
      have hs2 := HA.out.bys
      have hw1 : IntKind.i64.wrap (z + l[i].rows) = z + l[i].rows := by rw [IntKind.wrap_i64, HZ.out]; have := hrt.ro1; have := hrt.ro2; omega
      have hw2 : IntKind.i64.wrap (yb + l[i].bytes) = yb + l[i].bytes := by rw [IntKind.wrap_i64, HY.out]; have := hrt.by1; have := hrt.by2; omega
      have HZ2 : Hid (z + l[i].rows = sumR (l.take (i + 1))) := hid (by rw [List.take_succ_eq_append_getElem hLt, sumR_app, sumR_one, HZ.out])
      have HY2 : Hid (yb + l[i].bytes = sumB (l.take (i + 1))) := hid (by rw [List.take_succ_eq_append_getElem hLt, sumB_app, sumB_one, HY.out])
      have HL := hid hLt
      clear hc hmem hz1 hy1 hrt hs1 hs2 hRT HZ HY
      generalize l[i] = y at *
      go_wp2_with fail
      go_quiet (fail)
      go_wp2_with fail
      go_roundw
      case rel => exact ⟨i + 1, _, _, rfl, rfl, by go_num, HL.out, HZ2, HY2, bdN hbw _⟩
      case measure => have := HL.out; simp [intOf]; omega
    · have hil : ¬ (i : Int) < (l.length : Int) := by omega
      have HZ2 : Hid (m.rows = z) := hid (by rw [HA.out.ro, HZ.out, List.take_of_length_le (by omega)])
      have HY2 : Hid (m.bytes = yb) := hid (by rw [HA.out.by', HY.out, List.take_of_length_le (by omega)])
      have hlp := HL0.out
      have hln0 : (l.length : Int) ≠ 0 := by omega
      have hwr : IntKind.i64.wrap ((k.tmod (l.length : Int)) + (l.length : Int)) = (k.tmod (l.length : Int)) + (l.length : Int) := by
        have h1 := Int.tmod_lt_of_pos k (show (0 : Int) < (l.length : Int) by omega)
        have h2 : -(l.length : Int) < k.tmod (l.length : Int) := by
          exact Int.lt_tmod_of_pos k (show (0 : Int) < (l.length : Int) by omega)
        rw [IntKind.wrap_i64]
        omega
      obtain ⟨j, hjv, hjl⟩ : ∃ j : Nat, ((k.tmod (l.length : Int)) + (l.length : Int)).tmod (l.length : Int) = (j : Int) ∧ j < l.length := by
        have h1 := Int.lt_tmod_of_pos k (show (0 : Int) < (l.length : Int) by omega)
        have h2 := Int.tmod_nonneg (a := (k.tmod (l.length : Int)) + (l.length : Int)) (l.length : Int) (by omega)
        have h3 := Int.tmod_lt_of_pos ((k.tmod (l.length : Int)) + (l.length : Int)) (show (0 : Int) < (l.length : Int) by omega)
        obtain ⟨j, hj⟩ := Int.eq_ofNat_of_zero_le h2
        exact ⟨j, hj, by omega⟩
      clear HZ HY
      go_wp2_with fail
      have hidm : (m.id == id) = true := by rw [HA.out.id']; simp
      have hz0 := HZ2.out
      have hy0 := HY2.out
      subst hz0 hy0
      clear hwr hkb
      have ho := rxa.below hbw
      have hjc : l.length ≤ cx := by
        obtain ⟨_, c9, e, h⟩ := ho.form
        have e9 : cx = c9 := by injection e
        omega
      have hs1 : ∀ wx, (Instr.slice 25 (.slice Ax l.length cx) none (some (.int .i64 (j : Int))) none).run Try.prog wx = .ok (sliced Ax 0 j cx 8) wx := fun wx => run_topM (hi := j) (by omega) wx
      have hs2 : ∀ wx, (Instr.slice 25 (.slice Ax l.length cx) (some (.int .i64 (j : Int))) none none).run Try.prog wx = .ok (sliced Ax j l.length cx 8) wx := fun wx => run_fromM (s := j) (by omega) wx
      have r1 := ho.part 0 j (by omega) (by omega)
      have r2 := ho.part j l.length (by omega) (Nat.le_refl _)
      rw [Nat.sub_zero, List.drop_zero] at r1
      rw [List.take_of_length_le (by rw [List.length_drop]; omega)] at r2
      change KMet.Rd wr (sliced Ax 0 j cx 8) _ at r1
      change KMet.Rd wr (sliced Ax j l.length cx 8) _ at r2
      generalize sliced Ax 0 j cx 8 = v1 at *
      generalize sliced Ax j l.length cx 8 = v2 at *
      have ht1 : (l.take j).length ≤ l.length := by rw [List.length_take]; omega
      have ht2 : (l.drop j).length ≤ l.length := by rw [List.length_drop]; omega
      have HPERM : Hid (([] ++ l.drop j ++ l.take j).Perm l) := hid (by
        have e : l = l.take j ++ l.drop j := (List.take_append_drop j l).symm
        rw [List.nil_append]
        exact List.perm_append_comm.trans (by rw [← e]))
      obtain ⟨y0, s0, hys⟩ : ∃ y s, l.drop j = y :: s := by
        cases hd : l.drop j with
        | nil => have := congrArg List.length hd; rw [List.length_drop] at this; simp at this; omega
        | cons y s => exact ⟨y, s, rfl⟩
      have hy1 : y0.id ≠ 0 := by
        have hm : y0 ∈ l := List.mem_of_mem_drop (i := j) (by rw [hys]; simp)
        have := (rt_iff.1 (HA.out.fine.1 y0 hm)).id1
        omega
      have hy2 : #[.int .i64 0, .int .i64 0, .int .i64 0, .int .i64 0, .int .i64 0, .int .i64 0, .int .i64 0, .int .i64 0][0]? ≠ some (Value.int .i64 y0.id) := fun e => hy1 (by simpa using e.symm)
      rw [hys] at r2 ht2 HPERM
      clear hys
      generalize l.take j = T1 at *
      have d5 : Below wr.heap.size wr wr.drew := (Below.refl _ _).drew
      have dA : Below wr.heap.size wr (wr.drew.alloc (.cells #[] 28)) := d5.alloc (Nat.le_refl _) _
      have dX : Below wr.heap.size wr (wr.drew.alloc (.cells #[.int .i64 0, .int .i64 0, .int .i64 0, .int .i64 0, .int .i64 0, .int .i64 0, .int .i64 0, .int .i64 0] 28)) := d5.alloc (Nat.le_refl _) _
      have dB : Below wr.heap.size wr ((wr.drew.alloc (.cells #[] 28)).alloc (.cells #[.int .i64 0, .int .i64 0, .int .i64 0, .int .i64 0, .int .i64 0, .int .i64 0, .int .i64 0, .int .i64 0] 28)) := dA.alloc dA.size _
      have dC : Below wr.heap.size wr ((wr.drew.alloc (.cells #[.int .i64 0, .int .i64 0, .int .i64 0, .int .i64 0, .int .i64 0, .int .i64 0, .int .i64 0, .int .i64 0] 28)).alloc (.cells #[] 28)) := dX.alloc dX.size _
      have mA := Kd.own_empty (K := KMet) (heap_alloc_new wr.drew (.cells #[] 28)) (B := wr.heap.size) (Nat.le_refl _)
      have mB := Kd.own_empty (K := KMet) (row_alloc (heap_alloc_new wr.drew (.cells #[] 28)) (.cells #[.int .i64 0, .int .i64 0, .int .i64 0, .int .i64 0, .int .i64 0, .int .i64 0, .int .i64 0, .int .i64 0] 28)) (B := wr.heap.size) (Nat.le_refl _)
      have hC0 := heap_alloc_new (wr.drew.alloc (.cells #[.int .i64 0, .int .i64 0, .int .i64 0, .int .i64 0, .int .i64 0, .int .i64 0, .int .i64 0, .int .i64 0] 28)) (.cells #[] 28)
      rw [World.size_alloc] at hC0
      have mC := Kd.own_empty (K := KMet) (g := wr.heap.size + 1) hC0 (B := wr.heap.size) (Nat.le_succ _)
      have xB : ((wr.drew.alloc (.cells #[] 28)).alloc (.cells #[.int .i64 0, .int .i64 0, .int .i64 0, .int .i64 0, .int .i64 0, .int .i64 0, .int .i64 0, .int .i64 0] 28)).heap[wr.heap.size + 1]? = some (.cells #[.int .i64 0, .int .i64 0, .int .i64 0, .int .i64 0, .int .i64 0, .int .i64 0, .int .i64 0, .int .i64 0] 28 (0, 0)) := by
        have := heap_alloc_new (wr.drew.alloc (.cells #[] 28)) (.cells #[.int .i64 0, .int .i64 0, .int .i64 0, .int .i64 0, .int .i64 0, .int .i64 0, .int .i64 0, .int .i64 0] 28)
        rwa [World.size_alloc] at this
      have xC : ((wr.drew.alloc (.cells #[.int .i64 0, .int .i64 0, .int .i64 0, .int .i64 0, .int .i64 0, .int .i64 0, .int .i64 0, .int .i64 0] 28)).alloc (.cells #[] 28)).heap[wr.heap.size]? = some (.cells #[.int .i64 0, .int .i64 0, .int .i64 0, .int .i64 0, .int .i64 0, .int .i64 0, .int .i64 0, .int .i64 0] 28 (0, 0)) := row_alloc (heap_alloc_new wr.drew (.cells #[.int .i64 0, .int .i64 0, .int .i64 0, .int .i64 0, .int .i64 0, .int .i64 0, .int .i64 0, .int .i64 0] 28)) (.cells #[] 28)
      have hneB : wr.heap.size + 1 ≠ wr.heap.size := by omega
      have hneC : wr.heap.size ≠ wr.heap.size + 1 := by omega
      have hjw : wj.heap.size < wr.heap.size := World.block_lt_of_cell? wr _ (K8.out wr hbw).c0
      clear ho
      go_region_law (first
        | (refine Kd.step_app (K := KMet) (w := wr.drew.alloc (.cells #[] 28)) rfl (.tmp 115) (.tmp 118) 25 rfl Try.underlying25 infoMet rfl wr.heap.size (.slice (some ⟨wr.heap.size, 0, none⟩) 0 0) v2 [] (y0 :: s0) rfl mA rfl (r2.below dA) (by simp at ht2 ht1 ⊢; unfold maxLen; omega) (by simp at ht2 ht1 ⊢; omega) dA.size ?_; intro v6 w6 o6 b6 g6; have c6 := dA.trans b6)
        | (refine Kd.step_app (K := KMet) (w := (wr.drew.alloc (.cells #[] 28)).alloc (.cells #[.int .i64 0, .int .i64 0, .int .i64 0, .int .i64 0, .int .i64 0, .int .i64 0, .int .i64 0, .int .i64 0] 28)) rfl (.tmp 115) (.tmp 118) 25 rfl Try.underlying25 infoMet rfl wr.heap.size (.slice (some ⟨wr.heap.size, 0, none⟩) 0 0) v2 [] (y0 :: s0) rfl mB rfl (r2.below dB) (by simp at ht2 ht1 ⊢; unfold maxLen; omega) (by simp at ht2 ht1 ⊢; omega) dB.size ?_; intro v6 w6 o6 b6 g6; have c6 := dB.trans b6; have r13 := far_row (g := wr.heap.size) g6 xB hneB; have hne13 : wj.heap.size ≠ wr.heap.size + 1 := Nat.ne_of_lt (Nat.lt_succ_of_lt hjw))
        | (refine Kd.step_app (K := KMet) (w := (wr.drew.alloc (.cells #[.int .i64 0, .int .i64 0, .int .i64 0, .int .i64 0, .int .i64 0, .int .i64 0, .int .i64 0, .int .i64 0] 28)).alloc (.cells #[] 28)) rfl (.tmp 115) (.tmp 118) 25 rfl Try.underlying25 infoMet rfl wr.heap.size (.slice (some ⟨wr.heap.size + 1, 0, none⟩) 0 0) v2 [] (y0 :: s0) rfl mC rfl (r2.below dC) (by simp at ht2 ht1 ⊢; unfold maxLen; omega) (by simp at ht2 ht1 ⊢; omega) dC.size ?_; intro v6 w6 o6 b6 g6; have c6 := dC.trans b6; have r13 := far_row (g := wr.heap.size + 1) g6 xC hneC; have hne13 : wj.heap.size ≠ wr.heap.size := Nat.ne_of_lt hjw)
        | (refine Kd.step_app (K := KMet) (w := w6) rfl (.tmp 119) (.tmp 122) 25 rfl Try.underlying25 infoMet rfl wr.heap.size v6 v1 ([] ++ (y0 :: s0)) T1 rfl o6 rfl (r1.below c6) (by simp at ht2 ht1 ⊢; unfold maxLen; omega) (by simp at ht2 ht1 ⊢; omega) c6.size ?_; intro v7 w7 o7 b7 g7; have r13 := own_far o6 r13 hy2 g7; have c7 := c6.trans b7)
        | (refine Kd.step_app (K := KMet) (w := w6.alloc (.cells #[.int .i64 0, .int .i64 0, .int .i64 0, .int .i64 0, .int .i64 0, .int .i64 0, .int .i64 0, .int .i64 0] 28)) rfl (.tmp 119) (.tmp 122) 25 rfl Try.underlying25 infoMet rfl wr.heap.size v6 v1 ([] ++ (y0 :: s0)) T1 rfl (o6.alloc _) rfl (r1.below (c6.alloc c6.size _)) (by simp at ht2 ht1 ⊢; unfold maxLen; omega) (by simp at ht2 ht1 ⊢; omega) (c6.alloc c6.size _).size ?_; intro v7 w7 o7 b7 g7; have r13 := own_far (o6.alloc _) (heap_alloc_new w6 (.cells #[.int .i64 0, .int .i64 0, .int .i64 0, .int .i64 0, .int .i64 0, .int .i64 0, .int .i64 0, .int .i64 0] 28)) hy2 g7; have hne13 : wj.heap.size ≠ w6.heap.size := Nat.ne_of_lt (Nat.lt_of_lt_of_le hjw c6.size); have c7 := (c6.alloc c6.size (.cells #[.int .i64 0, .int .i64 0, .int .i64 0, .int .i64 0, .int .i64 0, .int .i64 0, .int .i64 0, .int .i64 0] 28)).trans b7)
        | (refine Kd.step_app (K := KMet) (w := w6) rfl (.tmp 119) (.tmp 122) 25 rfl Try.underlying25 infoMet rfl wr.heap.size v6 v1 ([] ++ (y0 :: s0)) T1 rfl o6 rfl (r1.below c6) (by simp at ht2 ht1 ⊢; unfold maxLen; omega) (by simp at ht2 ht1 ⊢; omega) c6.size ?_; intro v7 w7 o7 b7 g7; have c7 := c6.trans b7)
        | (go_simp; go_at_call 29; refine (HJ2.out v7 _ w7 o7.rd HPERM.out).mono ?_; rintro e w8 ⟨rfl, b8⟩; have r13 := (Tch.of_below b8 (S := fun _ => False)).row r13 (fun h => h); have c8 := c7.trans (b8.mono c7.size); have pc0 := held_cell (i := 0) r13 rfl; have pf0 := held_frozen (i := 0) r13; have pc1 := held_cell (i := 1) r13 rfl; have pf1 := held_frozen (i := 1) r13; have pc2 := held_cell (i := 2) r13 rfl; have pf2 := held_frozen (i := 2) r13; have pc3 := held_cell (i := 3) r13 rfl; have pf3 := held_frozen (i := 3) r13; have pc4 := held_cell (i := 4) r13 rfl; have pf4 := held_frozen (i := 4) r13; have pc5 := held_cell (i := 5) r13 rfl; have pf5 := held_frozen (i := 5) r13; have pc6 := held_cell (i := 6) r13 rfl; have pf6 := held_frozen (i := 6) r13; have pc7 := held_cell (i := 7) r13 rfl; have pf7 := held_frozen (i := 7) r13)
        | (go_simp; go_at_call 29; refine (HJ2.out v7 _ (w7.alloc (.cells #[.int .i64 0, .int .i64 0, .int .i64 0, .int .i64 0, .int .i64 0, .int .i64 0, .int .i64 0, .int .i64 0] 28)) (o7.rd.alloc _) HPERM.out).mono ?_; rintro e w8 ⟨rfl, b8⟩; have r13 := (Tch.of_below b8 (S := fun _ => False)).row (heap_alloc_new w7 (.cells #[.int .i64 0, .int .i64 0, .int .i64 0, .int .i64 0, .int .i64 0, .int .i64 0, .int .i64 0, .int .i64 0] 28)) (fun h => h); have c8 := (c7.alloc c7.size (.cells #[.int .i64 0, .int .i64 0, .int .i64 0, .int .i64 0, .int .i64 0, .int .i64 0, .int .i64 0, .int .i64 0] 28)).trans (b8.mono (c7.alloc c7.size (.cells #[.int .i64 0, .int .i64 0, .int .i64 0, .int .i64 0, .int .i64 0, .int .i64 0, .int .i64 0, .int .i64 0] 28)).size); have hne13 : wj.heap.size ≠ w7.heap.size := Nat.ne_of_lt (Nat.lt_of_lt_of_le hjw c7.size); have pc0 := held_cell (i := 0) r13 rfl; have pf0 := held_frozen (i := 0) r13; have pc1 := held_cell (i := 1) r13 rfl; have pf1 := held_frozen (i := 1) r13; have pc2 := held_cell (i := 2) r13 rfl; have pf2 := held_frozen (i := 2) r13; have pc3 := held_cell (i := 3) r13 rfl; have pf3 := held_frozen (i := 3) r13; have pc4 := held_cell (i := 4) r13 rfl; have pf4 := held_frozen (i := 4) r13; have pc5 := held_cell (i := 5) r13 rfl; have pf5 := held_frozen (i := 5) r13; have pc6 := held_cell (i := 6) r13 rfl; have pf6 := held_frozen (i := 6) r13; have pc7 := held_cell (i := 7) r13 rfl; have pf7 := held_frozen (i := 7) r13)
        | (go_simp; go_at_call 29; refine (HJ2.out v7 _ w7 o7.rd HPERM.out).mono ?_; rintro e w8 ⟨rfl, b8⟩; have c8 := c7.trans (b8.mono c7.size)))
      · have m13 := Mc.of_row (box_row w8 #[.int .i64 m.id, .int .i64 m.least, .int .i64 m.most, .int .i64 m.first, .int .i64 m.last, .int .i64 m.rows, .int .i64 m.bytes, .int .i64 m.level] 28)
        have k8 := (K8.out w8 (hbw.trans (c8.mono hbw.size))).below ((Below.refl _ w8).alloc (Nat.le_refl _) (.cells #[.int .i64 m.id, .int .i64 m.least, .int .i64 m.most, .int .i64 m.first, .int .i64 m.last, .int .i64 m.rows, .int .i64 m.bytes, .int .i64 m.level] 28)) (World.block_lt_of_cell? w8 _ (K8.out w8 (hbw.trans (c8.mono hbw.size))).c0)
        have bw8 := hba.trans ((hbw.trans (c8.mono hbw.size)).mono hba.size)
        have bwf := below_box bw8 bw8.size (.cells #[.int .i64 m.id, .int .i64 m.least, .int .i64 m.most, .int .i64 m.first, .int .i64 m.last, .int .i64 m.rows, .int .i64 m.bytes, .int .i64 m.level] 28)
        clear hs1 hs2 mA mB mC xB xC hC0 dA dB dC dX d5 r1 r2
        generalize w8.alloc (.cells #[.int .i64 m.id, .int .i64 m.least, .int .i64 m.most, .int .i64 m.first, .int .i64 m.last, .int .i64 m.rows, .int .i64 m.bytes, .int .i64 m.level] 28) = wf at *
        obtain ⟨a0, a1, a2, a3, a4, a5, a6, a7⟩ := m13
        obtain ⟨s0, s1, s2, s3, s4, s5, s6, s7⟩ := k8
        rw [Nat.zero_add] at a1 a2 a3 a4 a5 a6 a7 s1 s2 s3 s4 s5 s6 s7
        clear bw8
        go_wp2_with (go_at_call 22; refine (knows_is _).mono ?_; rintro e w9 ⟨rfl, b9⟩)
        go_ret
        exact ⟨rfl, bwf.trans (b9.mono bwf.size)⟩
      · have r13f := put8_row r13 (.int .i64 m.id) (.int .i64 m.least) (.int .i64 m.most) (.int .i64 m.first) (.int .i64 m.last) (.int .i64 m.rows) (.int .i64 m.bytes) (.int .i64 m.level)
        have k8 := put8_far (K8.out w8 (hbw.trans (c8.mono hbw.size))) hne13 (.int .i64 m.id) (.int .i64 m.least) (.int .i64 m.most) (.int .i64 m.first) (.int .i64 m.last) (.int .i64 m.rows) (.int .i64 m.bytes) (.int .i64 m.level)
        have bw8 := hba.trans ((hbw.trans (c8.mono hbw.size)).mono hba.size)
        have hle9 : W.heap.size ≤ w7.heap.size := Nat.le_trans (Nat.le_trans hba.size hbw.size) c7.size
        have bwf := Tch.below bw8 (put8_tch (w := w8) (b := w7.heap.size) (.int .i64 m.id) (.int .i64 m.least) (.int .i64 m.most) (.int .i64 m.first) (.int .i64 m.last) (.int .i64 m.rows) (.int .i64 m.bytes) (.int .i64 m.level)) (fun q (e : q = w7.heap.size) => by rw [e]; exact hle9) bw8.size
        have m13 := Mc.of_row r13f
        clear hs1 hs2 mA mB mC xB xC hC0 dA dB dC dX d5 r1 r2
        clear r13f r13 c8 hle9 b8 g7 b7 o7 c7 g6 b6 o6 c6 pc0 pf0 pc1 pf1 pc2 pf2 pc3 pf3 pc4 pf4 pc5 pf5 pc6 pf6 pc7 pf7
        generalize ((((((((w8.setCell ⟨w7.heap.size, 0, none⟩ (.int .i64 m.id)).setCell ⟨w7.heap.size, 1, none⟩ (.int .i64 m.least)).setCell ⟨w7.heap.size, 2, none⟩ (.int .i64 m.most)).setCell ⟨w7.heap.size, 3, none⟩ (.int .i64 m.first)).setCell ⟨w7.heap.size, 4, none⟩ (.int .i64 m.last)).setCell ⟨w7.heap.size, 5, none⟩ (.int .i64 m.rows)).setCell ⟨w7.heap.size, 6, none⟩ (.int .i64 m.bytes)).setCell ⟨w7.heap.size, 7, none⟩ (.int .i64 m.level)) = wf at *
        obtain ⟨a0, a1, a2, a3, a4, a5, a6, a7⟩ := m13
        obtain ⟨s0, s1, s2, s3, s4, s5, s6, s7⟩ := k8
        rw [Nat.zero_add] at a1 a2 a3 a4 a5 a6 a7 s1 s2 s3 s4 s5 s6 s7
        clear bw8
        go_wp2_with (go_at_call 22; refine (knows_is _).mono ?_; rintro e w9 ⟨rfl, b9⟩)
        go_ret
        exact ⟨rfl, bwf.trans (b9.mono bwf.size)⟩
      · have r13f := put8_row r13 (.int .i64 m.id) (.int .i64 m.least) (.int .i64 m.most) (.int .i64 m.first) (.int .i64 m.last) (.int .i64 m.rows) (.int .i64 m.bytes) (.int .i64 m.level)
        have k8 := put8_far (K8.out w8 (hbw.trans (c8.mono hbw.size))) hne13 (.int .i64 m.id) (.int .i64 m.least) (.int .i64 m.most) (.int .i64 m.first) (.int .i64 m.last) (.int .i64 m.rows) (.int .i64 m.bytes) (.int .i64 m.level)
        have bw8 := hba.trans ((hbw.trans (c8.mono hbw.size)).mono hba.size)
        have hle9 : W.heap.size ≤ w6.heap.size := Nat.le_trans (Nat.le_trans hba.size hbw.size) c6.size
        have bwf := Tch.below bw8 (put8_tch (w := w8) (b := w6.heap.size) (.int .i64 m.id) (.int .i64 m.least) (.int .i64 m.most) (.int .i64 m.first) (.int .i64 m.last) (.int .i64 m.rows) (.int .i64 m.bytes) (.int .i64 m.level)) (fun q (e : q = w6.heap.size) => by rw [e]; exact hle9) bw8.size
        have m13 := Mc.of_row r13f
        clear hs1 hs2 mA mB mC xB xC hC0 dA dB dC dX d5 r1 r2
        clear r13f r13 c8 hle9 b8 g7 b7 o7 c7 g6 b6 o6 c6 pc0 pf0 pc1 pf1 pc2 pf2 pc3 pf3 pc4 pf4 pc5 pf5 pc6 pf6 pc7 pf7
        generalize ((((((((w8.setCell ⟨w6.heap.size, 0, none⟩ (.int .i64 m.id)).setCell ⟨w6.heap.size, 1, none⟩ (.int .i64 m.least)).setCell ⟨w6.heap.size, 2, none⟩ (.int .i64 m.most)).setCell ⟨w6.heap.size, 3, none⟩ (.int .i64 m.first)).setCell ⟨w6.heap.size, 4, none⟩ (.int .i64 m.last)).setCell ⟨w6.heap.size, 5, none⟩ (.int .i64 m.rows)).setCell ⟨w6.heap.size, 6, none⟩ (.int .i64 m.bytes)).setCell ⟨w6.heap.size, 7, none⟩ (.int .i64 m.level)) = wf at *
        obtain ⟨a0, a1, a2, a3, a4, a5, a6, a7⟩ := m13
        obtain ⟨s0, s1, s2, s3, s4, s5, s6, s7⟩ := k8
        rw [Nat.zero_add] at a1 a2 a3 a4 a5 a6 a7 s1 s2 s3 s4 s5 s6 s7
        clear bw8
        go_wp2_with (go_at_call 22; refine (knows_is _).mono ?_; rintro e w9 ⟨rfl, b9⟩)
        go_ret
        exact ⟨rfl, bwf.trans (b9.mono bwf.size)⟩
      · have r13f := put8_row r13 (.int .i64 m.id) (.int .i64 m.least) (.int .i64 m.most) (.int .i64 m.first) (.int .i64 m.last) (.int .i64 m.rows) (.int .i64 m.bytes) (.int .i64 m.level)
        have k8 := put8_far (K8.out w8 (hbw.trans (c8.mono hbw.size))) hne13 (.int .i64 m.id) (.int .i64 m.least) (.int .i64 m.most) (.int .i64 m.first) (.int .i64 m.last) (.int .i64 m.rows) (.int .i64 m.bytes) (.int .i64 m.level)
        have bw8 := hba.trans ((hbw.trans (c8.mono hbw.size)).mono hba.size)
        have hle9 : W.heap.size ≤ (wr.heap.size + 1) := Nat.le_succ_of_le (Nat.le_trans hba.size hbw.size)
        have bwf := Tch.below bw8 (put8_tch (w := w8) (b := (wr.heap.size + 1)) (.int .i64 m.id) (.int .i64 m.least) (.int .i64 m.most) (.int .i64 m.first) (.int .i64 m.last) (.int .i64 m.rows) (.int .i64 m.bytes) (.int .i64 m.level)) (fun q (e : q = (wr.heap.size + 1)) => by rw [e]; exact hle9) bw8.size
        have m13 := Mc.of_row r13f
        clear hs1 hs2 mA mB mC xB xC hC0 dA dB dC dX d5 r1 r2
        clear r13f r13 c8 hle9 b8 g7 b7 o7 c7 g6 b6 o6 c6 pc0 pf0 pc1 pf1 pc2 pf2 pc3 pf3 pc4 pf4 pc5 pf5 pc6 pf6 pc7 pf7
        generalize ((((((((w8.setCell ⟨wr.heap.size + 1, 0, none⟩ (.int .i64 m.id)).setCell ⟨wr.heap.size + 1, 1, none⟩ (.int .i64 m.least)).setCell ⟨wr.heap.size + 1, 2, none⟩ (.int .i64 m.most)).setCell ⟨wr.heap.size + 1, 3, none⟩ (.int .i64 m.first)).setCell ⟨wr.heap.size + 1, 4, none⟩ (.int .i64 m.last)).setCell ⟨wr.heap.size + 1, 5, none⟩ (.int .i64 m.rows)).setCell ⟨wr.heap.size + 1, 6, none⟩ (.int .i64 m.bytes)).setCell ⟨wr.heap.size + 1, 7, none⟩ (.int .i64 m.level)) = wf at *
        obtain ⟨a0, a1, a2, a3, a4, a5, a6, a7⟩ := m13
        obtain ⟨s0, s1, s2, s3, s4, s5, s6, s7⟩ := k8
        rw [Nat.zero_add] at a1 a2 a3 a4 a5 a6 a7 s1 s2 s3 s4 s5 s6 s7
        clear bw8
        go_wp2_with (go_at_call 22; refine (knows_is _).mono ?_; rintro e w9 ⟨rfl, b9⟩)
        go_ret
        exact ⟨rfl, bwf.trans (b9.mono bwf.size)⟩
      · have r13f := put8_row r13 (.int .i64 m.id) (.int .i64 m.least) (.int .i64 m.most) (.int .i64 m.first) (.int .i64 m.last) (.int .i64 m.rows) (.int .i64 m.bytes) (.int .i64 m.level)
        have k8 := put8_far (K8.out w8 (hbw.trans (c8.mono hbw.size))) hne13 (.int .i64 m.id) (.int .i64 m.least) (.int .i64 m.most) (.int .i64 m.first) (.int .i64 m.last) (.int .i64 m.rows) (.int .i64 m.bytes) (.int .i64 m.level)
        have bw8 := hba.trans ((hbw.trans (c8.mono hbw.size)).mono hba.size)
        have hle9 : W.heap.size ≤ wr.heap.size := Nat.le_trans hba.size hbw.size
        have bwf := Tch.below bw8 (put8_tch (w := w8) (b := wr.heap.size) (.int .i64 m.id) (.int .i64 m.least) (.int .i64 m.most) (.int .i64 m.first) (.int .i64 m.last) (.int .i64 m.rows) (.int .i64 m.bytes) (.int .i64 m.level)) (fun q (e : q = wr.heap.size) => by rw [e]; exact hle9) bw8.size
        have m13 := Mc.of_row r13f
        clear hs1 hs2 mA mB mC xB xC hC0 dA dB dC dX d5 r1 r2
        clear r13f r13 c8 hle9 b8 g7 b7 o7 c7 g6 b6 o6 c6 pc0 pf0 pc1 pf1 pc2 pf2 pc3 pf3 pc4 pf4 pc5 pf5 pc6 pf6 pc7 pf7
        generalize ((((((((w8.setCell ⟨wr.heap.size, 0, none⟩ (.int .i64 m.id)).setCell ⟨wr.heap.size, 1, none⟩ (.int .i64 m.least)).setCell ⟨wr.heap.size, 2, none⟩ (.int .i64 m.most)).setCell ⟨wr.heap.size, 3, none⟩ (.int .i64 m.first)).setCell ⟨wr.heap.size, 4, none⟩ (.int .i64 m.last)).setCell ⟨wr.heap.size, 5, none⟩ (.int .i64 m.rows)).setCell ⟨wr.heap.size, 6, none⟩ (.int .i64 m.bytes)).setCell ⟨wr.heap.size, 7, none⟩ (.int .i64 m.level)) = wf at *
        obtain ⟨a0, a1, a2, a3, a4, a5, a6, a7⟩ := m13
        obtain ⟨s0, s1, s2, s3, s4, s5, s6, s7⟩ := k8
        rw [Nat.zero_add] at a1 a2 a3 a4 a5 a6 a7 s1 s2 s3 s4 s5 s6 s7
        clear bw8
        go_wp2_with (go_at_call 22; refine (knows_is _).mono ?_; rintro e w9 ⟨rfl, b9⟩)
        go_ret
        exact ⟨rfl, bwf.trans (b9.mono bwf.size)⟩
end Go.Proofs.Ytoomhfjmcdbgkaa
