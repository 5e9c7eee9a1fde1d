/-
  What a disk tells; its switches told; New; a crash. Conditions: those that each theorem names.
-/
import Derived.Test.YtjpneohachkheaaSma
import Derived.Test.YtjpneohachkheaaSm4
namespace Go.Icz
open Go.RowKit Go.Maps Go.ChangeMaps Go.MapKept
end Go.Icz
namespace Go.Proofs.Ytjpneohachkheaa
open Go.RowKit Go.Icz Go.Maps Go.ChangeMaps Go.MapKept
set_option maxRecDepth 100000
set_option maxHeartbeats 1000000
variable {w w' : World} {T T' : Nat → Prop} {c c' q p n s : Nat} {cv : Value} {fl : List FV} {M M' : DM}
theorem bClone_is (v : Value) (l : List Nat) (w : World) (hv : KB.Rd w v l) (hlen : l.length ≤ 1099511627776) :
    Calls Try.prog 38 #[v] w fun e w' => ∃ u, e = .returned u ∧ KB.Own w' w.heap.size u l ∧ Below w.heap.size w w' := by
  have HV := hid hv
  obtain ⟨A, c, rfl, _, hr⟩ := hv
  rcases A with _ | a
  · have hl : l = [] := by
      rcases Nat.eq_zero_or_pos l.length with h | h
      · exact List.eq_nil_of_length_eq_zero h
      · obtain ⟨_, _, h, _⟩ := hr h
        cases h
    subst hl
    clear hr HV
    have hn := Lib.run_eql_slice_nil (P := Try.prog)
    go_enter Try.func38, Try.ntmps38
    go_wp2
    go_ret
    exact ⟨_, rfl, Kd.Own.nil _ _, Below.refl _ _⟩
  · clear hr
    have hn := Lib.run_eql_slice_nil (P := Try.prog)
    have o0 : KB.Own (w.alloc (.cells #[] 5)) w.heap.size (.slice (some ⟨w.heap.size, 0, none⟩) 0 0) [] := Kd.Own.lit (K := KB) (B := w.heap.size) w [] (by decide) (Nat.le_refl _)
    have r0 := HV.out.alloc (.cells #[] 5)
    have hmm : ([] : List Nat).length + l.length ≤ maxLen := by simp; unfold maxLen; omega
    have hml : (([] : List Nat).length + l.length) * 1 ≤ 140737488355328 := by simp; omega
    have hB : w.heap.size ≤ (w.alloc (.cells #[] 5)).heap.size := by rw [World.size_alloc]; omega
    have ba : Below w.heap.size w (w.alloc (.cells #[] 5)) := (Below.refl _ w).alloc (Nat.le_refl _) _
    go_enter Try.func38, Try.ntmps38
    go_wp2_with (at_builtin; refine Kd.wp_app (K := KB) rfl (.tmp 5) (.tmp 6) 22 rfl Try.underlying22 infoB rfl w.heap.size _ _ [] l rfl o0 rfl r0 hmm hml hB ?_; intro v1 w1 o1 b1 g1 n1)
    go_ret
    exact ⟨_, rfl, o1, ba.trans b1⟩
theorem Read_is (h : Pl w T c q p n s cv fl M) (k : ByteArray) (hk : k.size ≤ maxLen) :
    Calls Try.prog 11 #[.pointer (some ⟨q, 0, none⟩), .string k] w fun e w' => ∃ A C, e = .returned (.tuple #[.slice A (readM M k).1.length C, .int .i64 (readM M k).2]) ∧ KB.Own w' w.heap.size (.slice A (readM M k).1.length C) (readM M k).1 ∧ Below w.heap.size w w' := by
  have hR := ready_yes h.q_ h.p_
  have c0 : w.cell? ⟨q, 0, none⟩ = some (.pointer (some ⟨p, 0, none⟩)) := held_cell h.q_ rfl
  have c5 : w.cell? ⟨p, 5, none⟩ = some (.map (some n)) := held_cell h.p_ rfl
  have hlk := h.nm.look2 k hk
  have hrd : readM M k = if M.off then (([] : List Nat), (9 : Int)) else match nlook M.names k with | none => (([] : List Nat), (3 : Int)) | some i => ((fileAt M.fs i).b, (0 : Int)) := rfl
  cases ho : M.off
  · rw [ho] at hR hrd
    rw [if_neg (by simp)] at hrd
    cases hl : nlook M.names k with
    | none =>
      rw [hl] at hrd hlk
      simp only at hrd
      unfold ptO at hlk
      simp only [Option.isSome_none] at hlk
      rw [hrd]
      clear h hrd
      go_enter Try.func11, Try.ntmps11
      go_wp2_with (go_at_call 37; refine hR.mono ?_; rintro e1 w1 ⟨rfl, rfl⟩; clear hR)
      go_ret2
      exact ⟨none, 0, rfl, Kd.Own.nil _ _, Below.refl _ _⟩
    | some i =>
      rw [hl] at hrd hlk
      simp only at hrd
      have hil : i < M.fs.length := h.wf.ni _ (look_mem hl)
      obtain ⟨hil', hgd, hfm, hF⟩ := h.at_ hil
      unfold ptO at hlk
      simp only [Option.isSome_some] at hlk
      rw [hgd] at hlk
      rw [hrd, ← hfm]
      have hw := h.wf.fw fl[i].m (by rw [← h.fm]; exact List.mem_map.2 ⟨_, List.getElem_mem hil', rfl⟩)
      obtain ⟨A, C, hbv, _⟩ := hF.b.rd.form
      have hC := bClone_is fl[i].bv fl[i].m.b w hF.b.rd (Nat.le_trans hw.2.1 (by omega))
      have e0 : w.cell? ⟨fl[i].g, 0, none⟩ = some fl[i].bv := held_cell hF.at_ rfl
      rw [hbv] at hC e0
      have HL : Hid (∀ u, KB.Rd w u [] → True) := hid (fun _ _ => trivial)
      clear h hrd hF hw hbv hfm hgd
      generalize fl[i].g = g at *
      generalize fl[i].m.b = bs at *
      go_enter Try.func11, Try.ntmps11
      go_wp2_with (first
        | (go_at_call 37; refine hR.mono ?_; rintro e1 w1 ⟨rfl, rfl⟩; clear hR)
        | (go_at_call 38; refine hC.mono ?_; rintro e2 w2 ⟨u, rfl, o2, b2⟩; obtain ⟨A2, C2, rfl, _⟩ := id o2.rd.form; clear hC))
      go_ret2
      exact ⟨A2, C2, rfl, o2, b2⟩
  · rw [ho] at hR hrd
    rw [if_pos rfl] at hrd
    rw [hrd]
    clear h hrd
    go_enter Try.func11, Try.ntmps11
    go_wp2_with (go_at_call 37; refine hR.mono ?_; rintro e1 w1 ⟨rfl, rfl⟩; clear hR)
    go_ret2
    exact ⟨none, 0, rfl, Kd.Own.nil _ _, Below.refl _ _⟩
theorem List_is (h : Pl w T c q p n s cv fl M) :
    Calls Try.prog 19 #[.pointer (some ⟨q, 0, none⟩)] w fun e w' => ∃ v, e = .returned v ∧ KS.Own w' w.heap.size v ((listM M).map kb) ∧ Below w.heap.size w w' := by
  have hL := looked_yes h.q_
  have c5 : w.cell? ⟨p, 5, none⟩ = some (.map (some n)) := held_cell h.p_ rfl
  have hR := rising_is h.nm h.wf.nn (bounds h).2.2
  clear h
  go_enter Try.func19, Try.ntmps19
  go_wp2_with (first
    | (go_at_call 28; refine hL.mono ?_; rintro e1 w1 ⟨rfl, rfl⟩; clear hL)
    | (go_at_call 33; refine hR.mono ?_; rintro e2 w2 ⟨v, rfl, o2, b2⟩; clear hR))
  go_ret
  exact ⟨v, rfl, o2, b2⟩
theorem Used_is (h : Pl w T c q p n s cv fl M) :
    Calls Try.prog 20 #[.pointer (some ⟨q, 0, none⟩)] w fun e w' => e = .returned (.int .i64 (used M.fs M.names : Nat)) ∧ Tch (fun _ => False) w w' := by
  have hL := looked_yes h.q_
  have c5 : w.cell? ⟨p, 5, none⟩ = some (.map (some n)) := held_cell h.p_ rfl
  have hU := used_is h
  clear h
  generalize used M.fs M.names = us at *
  go_enter Try.func20, Try.ntmps20
  go_wp2_with (first
    | (go_at_call 28; refine hL.mono ?_; rintro e1 w1 ⟨rfl, rfl⟩; clear hL)
    | (go_at_call 40; refine hU.mono ?_; rintro e2 w2 ⟨rfl, t2⟩; clear hU))
  go_ret
  exact ⟨rfl, t2⟩
theorem Free_is (h : Pl w T c q p n s cv fl M) :
    Calls Try.prog 21 #[.pointer (some ⟨q, 0, none⟩)] w fun e w' => e = .returned (.int .i64 ((M.quota : Int) - (used M.fs M.names : Nat))) ∧ Tch (fun _ => False) w w' := by
  have hul := used_le h
  have hqu := h.wf.qu
  have tt : Tch (fun _ => False) w w.drew := Tch.drew _ _
  have hL : ∀ w1, Tch (fun _ => False) w w1 → Calls Try.prog 28 #[.pointer (some ⟨q, 0, none⟩)] w1 fun e w' => e = .returned (.pointer (some ⟨p, 0, none⟩)) ∧ w' = w1 := fun w1 t1 => looked_yes (h.touch0 t1).q_
  have hU : ∀ w1, Tch (fun _ => False) w w1 → Calls Try.prog 20 #[.pointer (some ⟨q, 0, none⟩)] w1 fun e w' => e = .returned (.int .i64 (used M.fs M.names : Nat)) ∧ Tch (fun _ => False) w w' ∧ w'.cell? ⟨p, 4, none⟩ = some (.int .i64 (M.quota : Int)) := fun w1 t1 => by
    refine (Used_is (h.touch0 t1)).mono ?_
    rintro e w2 ⟨rfl, t2⟩
    have h2 := (h.touch0 t1).touch0 t2
    exact ⟨rfl, t1.trans t2, held_cell h2.p_ rfl⟩
  have hkk : w.cell? ⟨p, 4, none⟩ = some (.int .i64 (M.quota : Int)) := held_cell h.p_ rfl
  have hwr : IntKind.i64.wrap ((M.quota : Int) - (used M.fs M.names : Int)) = (M.quota : Int) - (used M.fs M.names : Int) := by rw [IntKind.wrap_i64]; omega
  clear h hul hqu
  generalize used M.fs M.names = us at *
  generalize M.quota = qu at *
  go_enter Try.func21, Try.ntmps21
  go_wp2_with fail
  go_region_held3 (fun w' => w'.cell? ⟨p, 4, none⟩ = some (.int .i64 (qu : Int))) (exact hkk) (first
    | (go_at_call 28; refine (hL _ tt).mono ?_; rintro e1 w1 ⟨rfl, rfl⟩)
    | (go_at_call 20; refine (hU _ tt).mono ?_; rintro e2 w2 ⟨rfl, tt, hkk⟩))
  all_goals (go_wp2; go_ret; exact ⟨rfl, tt⟩)
theorem Down_is (h : Pl w T c q p n s cv fl M) : Calls Try.prog 22 #[.pointer (some ⟨q, 0, none⟩)] w fun e w' => e = .returned (.bool M.off) ∧ w' = w := by
  have hL := looked_yes h.q_
  have c0 : w.cell? ⟨p, 2, none⟩ = some (.bool M.off) := held_cell h.p_ rfl
  clear h
  go_enter Try.func22, Try.ntmps22
  go_wp2_with (go_at_call 28; refine hL.mono ?_; rintro e1 w1 ⟨rfl, rfl⟩; clear hL)
  go_ret
  exact ⟨rfl, rfl⟩
theorem maxI (a b : Int) : (if a < b then b else a) = max a b := by
  split <;> omega
theorem Fail_is (h : Pl w T c q p n s cv fl M) (k : Int) (d : Bool) (hk : k ≤ 9223372036854775807) :
    Calls Try.prog 8 #[.pointer (some ⟨q, 0, none⟩), .int .i64 k, .bool d] w fun e w' => e = .returned (.tuple #[]) ∧ Done w T c q p (failM M k d) w' := by
  have hL := looked_yes h.q_
  have c2 : w.cell? ⟨p, 0, none⟩ = some (.int .i64 M.fault) := held_cell h.p_ rfl
  have c3 : w.cell? ⟨p, 1, none⟩ = some (.bool M.done) := held_cell h.p_ rfl
  have e2 := held_frozen (i := 0) h.p_
  have e3 := held_frozen (i := 1) h.p_
  have HW : Hid (Done w T c q p (failM M k d) ((w.setCell ⟨p, 0, none⟩ (.int .i64 (max k 0))).setCell ⟨p, 1, none⟩ (.bool d))) := by
    have t1 : Tch (· = p) w ((w.setCell ⟨p, 0, none⟩ (.int .i64 (max k 0))).setCell ⟨p, 1, none⟩ (.bool d)) := (Tch.set (· = p) _ ⟨p, 0, none⟩ _ rfl).trans (Tch.set (· = p) _ ⟨p, 1, none⟩ _ rfl)
    have r1 := row_set (i := 1) (row_set (i := 0) h.p_ (.int .i64 (max k 0))) (.bool d)
    exact hid ⟨⟨_, _, _, _, h.sw (o := M.off) (d := d) (f := M.fuse) (a := max k 0) t1 (by rw [r1]; rfl) h.wf.fu (by omega)⟩, t1.mono (fun j hj => h.ft _ (.inr (.inl hj)))⟩
  have hF : Calls Try.prog 29 #[.pointer (some ⟨p, 0, none⟩), .int .i64 k, .bool d] w fun e w' => e = .returned (.tuple #[]) ∧ Done w T c q p (failM M k d) w' := by
    clear h hL
    go_enter Try.func29, Try.ntmps29
    go_wp2
    go_end0
    exact ⟨rfl, HW.out⟩
  clear h HW
  go_enter Try.func8, Try.ntmps8
  go_wp2_with (first
    | (go_at_call 28; refine hL.mono ?_; rintro e1 w1 ⟨rfl, rfl⟩; clear hL)
    | (go_at_call 29; refine hF.mono ?_; rintro e2 w2 ⟨rfl, D2⟩; clear hF))
  go_end0
  exact ⟨rfl, D2⟩
theorem Cut_is (h : Pl w T c q p n s cv fl M) (k : Int) (hk : k ≤ 9223372036854775807) :
    Calls Try.prog 9 #[.pointer (some ⟨q, 0, none⟩), .int .i64 k] w fun e w' => e = .returned (.tuple #[]) ∧ Done w T c q p (cutM M k) w' := by
  have hL := looked_yes h.q_
  have c1 : w.cell? ⟨p, 3, none⟩ = some (.int .i64 M.fuse) := held_cell h.p_ rfl
  have e1 := held_frozen (i := 3) h.p_
  have HW : Hid (Done w T c q p (cutM M k) (w.setCell ⟨p, 3, none⟩ (.int .i64 (max k (-1))))) := by
    have t1 : Tch (· = p) w (w.setCell ⟨p, 3, none⟩ (.int .i64 (max k (-1)))) := Tch.set (· = p) _ ⟨p, 3, none⟩ _ rfl
    have r1 := row_set (i := 3) h.p_ (.int .i64 (max k (-1)))
    exact hid ⟨⟨_, _, _, _, h.sw (o := M.off) (d := M.done) (f := max k (-1)) (a := M.fault) t1 (by rw [r1]; rfl) (by omega) h.wf.fa⟩, t1.mono (fun j hj => h.ft _ (.inr (.inl hj)))⟩
  clear h
  go_enter Try.func9, Try.ntmps9
  go_wp2_with (go_at_call 28; refine hL.mono ?_; rintro e1 w1 ⟨rfl, rfl⟩; clear hL)
  go_end0
  exact ⟨rfl, HW.out⟩
theorem four_row {w : World} {b i : Nat} {cs : Array Value} {t : TypeId} (h : w.heap[b]? = some (.cells cs t (0, 0))) (v0 v1 v2 v3 : Value) : ((((w.setCell ⟨b, i, none⟩ v0).setCell ⟨b, i + 1, none⟩ v1).setCell ⟨b, i + 2, none⟩ v2).setCell ⟨b, i + 3, none⟩ v3).heap[b]? = some (.cells ((((cs.setIfInBounds i v0).setIfInBounds (i + 1) v1).setIfInBounds (i + 2) v2).setIfInBounds (i + 3) v3) t (0, 0)) :=
  row_set (row_set (row_set (row_set h _) _) _) _
theorem four_tch {S : Nat → Prop} {w : World} {b i : Nat} (hb : S b) (v0 v1 v2 v3 : Value) : Tch S w ((((w.setCell ⟨b, i, none⟩ v0).setCell ⟨b, i + 1, none⟩ v1).setCell ⟨b, i + 2, none⟩ v2).setCell ⟨b, i + 3, none⟩ v3) :=
  (Tch.set S _ ⟨b, i, none⟩ _ hb).trans ((Tch.set S _ ⟨b, i + 1, none⟩ _ hb).trans ((Tch.set S _ ⟨b, i + 2, none⟩ _ hb).trans (Tch.set S _ ⟨b, i + 3, none⟩ _ hb)))
theorem calm_is (w : World) : Calls Try.prog 36 #[] w fun e w' => e = .returned (.agg #[.int .i64 0, .bool false, .bool false, .int .i64 (-1)]) ∧ Below w.heap.size w w' := by
  have HB := hid ((Below.refl _ w).alloc (Nat.le_refl _) (.cells #[.int .i64 0, .bool false, .bool false, .int .i64 (-1)] 64))
  have HR := hid (heap_alloc_new w (.cells #[.int .i64 0, .bool false, .bool false, .int .i64 (-1)] 64))
  go_enter Try.func36, Try.ntmps36
  go_wp2
  refine bodyPost_ret (results_cell_row rfl _ _ w.heap.size 64 #[.int .i64 0, .bool false, .bool false, .int .i64 (-1)] _ _ rfl HR.out Try.underlying64 rfl (by kernel_rfl)) rfl ?_
  exact ⟨rfl, HB.out⟩
theorem wf_new (qu : Nat) (h2 : qu ≤ 1048576) : WfM (newM qu) 0 := by
  refine ⟨List.nodup_nil, List.nodup_nil, ?_, ?_, ?_, ?_, Nat.le_refl _, Nat.le_refl _, Nat.le_refl _, by omega, h2, ⟨by show (-1 : Int) ≤ -1; decide, by show (-1 : Int) ≤ 9223372036854775807; decide⟩, ⟨by show (0 : Int) ≤ 0; decide, by show (0 : Int) ≤ 9223372036854775807; decide⟩, ?_, ?_, ?_⟩ <;> (intro x hx; cases hx)
theorem New_is (qu : Nat) (w : World) (h1 : 1 ≤ qu) (h2 : qu ≤ 1048576) (hT : ∀ k, w.heap.size ≤ k → T k) :
    Calls Try.prog 24 #[.int .i64 (qu : Int)] w fun e w' => ∃ q p, e = .returned (.tuple #[.pointer (some ⟨q, 0, none⟩), .int .i64 0]) ∧ Done w T 0 q p (newM qu) w' ∧ Below w.heap.size w w' := by
  have hd : decide ((qu : Int) < 1) = false := decide_eq_false (by omega)
  have hd2 : decide (1048576 < (qu : Int)) = false := decide_eq_false (by omega)
  have hMM := @run_makeMap Try.prog
  have hC := calm_is w
  have hFin : ∀ w1, Below w.heap.size w w1 → Hid (Done w T 0 (w1.heap.size + 1 + 1 + 1) (w1.heap.size + 1 + 1) (newM qu) ((((w1.alloc (.map #[] 0)).alloc (.map #[] 0)).alloc (.cells #[.int .i64 0, .bool false, .bool false, .int .i64 (-1), .int .i64 (qu : Int), .map (some w1.heap.size), .map (some (w1.heap.size + 1)), .slice none 0 0] 69)).alloc (.cells #[.pointer (some ⟨w1.heap.size + 1 + 1, 0, none⟩)] 44)) ∧ Below w.heap.size w ((((w1.alloc (.map #[] 0)).alloc (.map #[] 0)).alloc (.cells #[.int .i64 0, .bool false, .bool false, .int .i64 (-1), .int .i64 (qu : Int), .map (some w1.heap.size), .map (some (w1.heap.size + 1)), .slice none 0 0] 69)).alloc (.cells #[.pointer (some ⟨w1.heap.size + 1 + 1, 0, none⟩)] 44))) := fun w1 b1 => by
    have z1 : (w1.alloc (.map #[] 0)).heap.size = w1.heap.size + 1 := World.size_alloc _ _
    have z2 : ((w1.alloc (.map #[] 0)).alloc (.map #[] 0)).heap.size = w1.heap.size + 1 + 1 := by rw [World.size_alloc, z1]
    have z3 : (((w1.alloc (.map #[] 0)).alloc (.map #[] 0)).alloc (.cells #[.int .i64 0, .bool false, .bool false, .int .i64 (-1), .int .i64 (qu : Int), .map (some w1.heap.size), .map (some (w1.heap.size + 1)), .slice none 0 0] 69)).heap.size = w1.heap.size + 1 + 1 + 1 := by rw [World.size_alloc, z2]
    have m1 := Mp.made w1 []
    have m2 := Mp.made (w1.alloc (.map #[] 0)) []
    rw [z1] at m2
    have ta : ∀ (W : World) (o : Obj), Tch (fun _ => False) W (W.alloc o) := fun W o => Tch.alloc _ _ _
    have r3 := heap_alloc_new ((w1.alloc (.map #[] 0)).alloc (.map #[] 0)) (.cells #[.int .i64 0, .bool false, .bool false, .int .i64 (-1), .int .i64 (qu : Int), .map (some w1.heap.size), .map (some (w1.heap.size + 1)), .slice none 0 0] 69)
    rw [z2] at r3
    have r4 := heap_alloc_new (((w1.alloc (.map #[] 0)).alloc (.map #[] 0)).alloc (.cells #[.int .i64 0, .bool false, .bool false, .int .i64 (-1), .int .i64 (qu : Int), .map (some w1.heap.size), .map (some (w1.heap.size + 1)), .slice none 0 0] 69)) (.cells #[.pointer (some ⟨w1.heap.size + 1 + 1, 0, none⟩)] 44)
    rw [z3] at r4
    have hs := b1.size
    have bb := (((b1.alloc (by omega) (.map #[] 0)).alloc (by omega) (.map #[] 0)).alloc (by omega) (.cells #[.int .i64 0, .bool false, .bool false, .int .i64 (-1), .int .i64 (qu : Int), .map (some w1.heap.size), .map (some (w1.heap.size + 1)), .slice none 0 0] 69)).alloc (by omega) (.cells #[.pointer (some ⟨w1.heap.size + 1 + 1, 0, none⟩)] 44)
    refine hid ⟨⟨⟨w1.heap.size, w1.heap.size + 1, .slice none 0 0, [], r4, (ta _ _).row r3 (fun h => h), ⟨fun x hx => (by cases hx), List.Pairwise.nil, List.Pairwise.nil, List.Pairwise.nil⟩, rfl, (((m1.touch (ta _ _) (fun h => h)).touch (ta _ _) (fun h => h)).touch (ta _ _) (fun h => h)), ((m2.touch (ta _ _) (fun h => h)).touch (ta _ _) (fun h => h)), by omega, Kd.Own.nil _ _, ?_, wf_new qu h2⟩, below_tch bb⟩, bb⟩
    rintro k (rfl | rfl | rfl | rfl | hk | ⟨x, hx, _⟩)
    · exact hT _ (by omega)
    · exact hT _ (by omega)
    · exact hT _ (by omega)
    · exact hT _ (by omega)
    · cases hk
    · cases hx
  clear h1 h2 hT
  go_enter Try.func24, Try.ntmps24
  go_wp2_with (go_at_call 36; refine hC.mono ?_; rintro e1 w1 ⟨rfl, b1⟩; have HF := hFin w1 b1; clear hC hFin)
  go_ret2
  exact ⟨_, _, rfl, HF.out⟩
end Go.Proofs.Ytjpneohachkheaa
