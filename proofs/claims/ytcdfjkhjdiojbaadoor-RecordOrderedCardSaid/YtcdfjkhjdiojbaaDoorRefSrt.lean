/-
  What the reference's Before and Sort of entries answer: the entries sorted, equals as they stood. Conditions: the entries can be read; sizes as the theorem names.
-/
import Derived.Test.YtcdfjkhjdiojbaaDoorRecSort2
import Derived.Test.YtcdfjkhjdiojbaaDoorRefRight
import Derived.Deep.RegionHeld3
import Derived.Deep.RegionLaw
namespace Go.Icz
open Go.RowKit
theorem RdV.one (w : World) (x : EV) (n : Nat) (hn : w.heap.size = n) : RdV (w.alloc (.cells #[.int .i64 x.1.seq, .int .i64 x.1.time, .slice x.2.1 x.1.labs.length x.2.2, .string ⟨x.1.line.toArray⟩] 27)) (.slice (some ⟨n, 0, none⟩) 1 1) [x] := by
  subst hn
  have h := heap_alloc_new w (.cells #[.int .i64 x.1.seq, .int .i64 x.1.time, .slice x.2.1 x.1.labs.length x.2.2, .string ⟨x.1.line.toArray⟩] 27)
  refine ⟨_, 1, rfl, by simp, fun _ => ⟨w.heap.size, 0, rfl, by simp, fun j hj => ?_⟩⟩
  match j, hj with
  | 0, _ =>
    refine ⟨?_, ?_, ?_, ?_⟩ <;> (rw [cell_of_row _ _ _ _ _ _ h]; rfl)
theorem RdV.far {w w' : World} {row : Option Nat} (hg : w.grownBy w' row) {b off n c : Nat} {m : List EV} (h : RdV w (.slice (some ⟨b, off, none⟩) n c) m) (hb : some b ≠ row) : RdV w' (.slice (some ⟨b, off, none⟩) n c) m := by
  obtain ⟨A, c', hv, hc, hr⟩ := h
  refine ⟨A, c', hv, hc, fun h0 => ?_⟩
  obtain ⟨b', off', hA, hlt, hcell⟩ := hr h0
  subst hA
  injection hv with e1 e2 e3
  injection e1 with e1
  injection e1 with e1 e4
  subst e1
  refine ⟨b, off', rfl, Nat.lt_of_lt_of_le hlt hg.size, fun j hj => ?_⟩
  obtain ⟨h0, h1, h2, h3⟩ := hcell j hj
  exact ⟨(hg.cell_far ⟨b, off' + j * 4, none⟩ hlt hb).trans h0, (hg.cell_far ⟨b, off' + j * 4 + 1, none⟩ hlt hb).trans h1, (hg.cell_far ⟨b, off' + j * 4 + 2, none⟩ hlt hb).trans h2, (hg.cell_far ⟨b, off' + j * 4 + 3, none⟩ hlt hb).trans h3⟩
theorem RdV.part {w : World} {A : Option Addr} {c : Nat} {l : List EV} (h : RdV w (.slice A l.length c) l) (lo hi : Nat) (h1 : lo ≤ hi) (h2 : hi ≤ l.length) : RdV w (sliced A lo hi c 4) ((l.drop lo).take (hi - lo)) := by
  obtain ⟨A', c', hv, hc, hr⟩ := h
  injection hv with e1 e2 e3
  subst e1 e3
  unfold sliced
  have hl : ((l.drop lo).take (hi - lo)).length = hi - lo := by rw [List.length_take, List.length_drop]; omega
  refine ⟨_, c - lo, by rw [hl], by rw [hl]; omega, fun h0 => ?_⟩
  rw [hl] at h0
  obtain ⟨b0, off, rfl, hlt, hcell⟩ := hr (by omega)
  refine ⟨b0, off + lo * 4, by rw [if_neg (by omega)]; simp [add_flat], hlt, fun j hj => ?_⟩
  rw [hl] at hj
  have h := hcell (lo + j) (by omega)
  rw [Nat.add_mul, ← Nat.add_assoc] at h
  simp only [List.getElem_take, List.getElem_drop]
  exact h
theorem RdV.rdE {w : World} {v : Value} {X : List EV} (h : RdV w v X) (hl : ∀ p ∈ X, RdL w (.slice p.2.1 p.1.labs.length p.2.2) p.1.labs) : RdE w v (X.map (·.1)) := by
  obtain ⟨A, c, rfl, hc, hr⟩ := h
  refine ⟨A, c, by rw [List.length_map], by rw [List.length_map]; exact hc, fun h0 => ?_⟩
  rw [List.length_map] at h0
  obtain ⟨b, off, rfl, hlt, hcell⟩ := hr h0
  refine ⟨b, off, rfl, hlt, fun j hj => ?_⟩
  rw [List.length_map] at hj
  obtain ⟨c0, c1, c2, c3⟩ := hcell j hj
  simp only [List.getElem_map]
  exact ⟨_, _, c0, c1, c2, c3, hl _ (List.getElem_mem hj)⟩
/-- One entry more, put behind those that it does not stand ahead of. -/
theorem ins_stable {L O : List EV} {x : EV} {k : Nat} (h : StableOf ltE L O) (hk : k ≤ O.length) (h1 : ∀ j (hj : j < O.length), k ≤ j → ltE x O[j] = true) (h2 : ∀ (_h0 : 0 < k) (hj : k - 1 < O.length), ltE x O[k - 1] = false) :
    StableOf ltE (L ++ [x]) (O.take k ++ x :: O.drop k) := by
  have hs : SortedL ltE (O.take k ++ O.drop k) := by rw [List.take_append_drop]; exact h.1
  have a := StableOf.last ltE_ord (y := x) hs (fun y hy => ?_) (fun y hy => ?_)
  · rw [List.take_append_drop] at a
    exact StableOf.pieces h (StableOf.refl (List.pairwise_singleton _ _)) a
  · obtain ⟨j, hj, e⟩ := List.mem_iff_getElem.1 hy
    rw [List.length_take] at hj
    rw [List.getElem_take] at e
    subst e
    have h3 := h2 (by omega) (by omega)
    rcases Nat.lt_or_ge j (k - 1) with h4 | h4
    · have h5 := List.pairwise_iff_getElem.1 h.1 j (k - 1) (by omega) (by omega) h4
      exact SWOrd.le_trans ltE_ord h5 h3
    · have h6 : j = k - 1 := by omega
      subst h6
      exact h3
  · obtain ⟨j, hj, e⟩ := List.mem_iff_getElem.1 hy
    rw [List.length_drop] at hj
    rw [List.getElem_drop] at e
    subst e
    exact h1 (k + j) (by omega) (by omega)
end Go.Icz
namespace Go.Proofs.YtcdfjkhjdiojbaaDoor
open Go.RowKit Go.Icz
set_option maxRecDepth 100000 in
theorem run_topV {A : Option Addr} {n c hi : Nat} (h2 : hi ≤ c) (wx : World) : (Instr.slice 22 (.slice A n c) none (some (.int .i64 (hi : Int))) none).run Tryd.prog wx = .ok (sliced A 0 hi c 4) wx := by
  have := run_slice_h (P := Tryd.prog) (w := wx) 22 A n c Tryd.underlying22 .i64 (hi : Int) (by omega) (by omega)
  rw [this]
  have hz : (sizeOf (Tryd.prog.elem 22)).run Tryd.prog wx = .ok 4 wx := by go_simp
  rw [hz]
  simp [Result.andThen]
set_option maxRecDepth 100000 in
theorem run_fromV {A : Option Addr} {n c s : Nat} (h : s ≤ n) (wx : World) : (Instr.slice 22 (.slice A n c) (some (.int .i64 (s : Int))) none none).run Tryd.prog wx = .ok (sliced A s n c 4) wx := by
  have := run_slice_l (P := Tryd.prog) (w := wx) 22 A n c Tryd.underlying22 .i64 (s : Int) (by omega) (by omega)
  rw [this]
  have hz : (sizeOf (Tryd.prog.elem 22)).run Tryd.prog wx = .ok 4 wx := by go_simp
  rw [hz]
  simp [Result.andThen]
set_option maxHeartbeats 1000000 in
set_option maxRecDepth 100000 in
theorem R3Before_is (x y : Ent) (A A' : Option Addr) (c c' : Nat) (W : World) : Calls Tryd.prog 10 #[entV x A c, entV y A' c'] W fun e w' => e = .returned (.bool (ltT x y)) ∧ Below W.heap.size W w' := by
  have hv : ltT x y = (decide (x.time < y.time) || (x.time == y.time && decide (x.seq < y.seq))) := by
    unfold ltT cmpE or2 icmp
    by_cases h1 : x.time < y.time
    · simp [h1]
    · by_cases h2 : y.time < x.time
      · have h3 : ¬ x.time = y.time := by omega
        simp [h1, h2, h3]
      · have h3 : x.time = y.time := by omega
        by_cases h4 : x.seq < y.seq
        · simp [h3, h4]
        · by_cases h5 : y.seq < x.seq
          · simp [h3, h4, h5]
          · simp [h3, h4, h5]
  rw [hv]
  have hb : Below W.heap.size W ((W.alloc (.cells #[.int .i64 x.seq, .int .i64 x.time, .slice A x.labs.length c, .string ⟨x.line.toArray⟩] 27)).alloc (.cells #[.int .i64 y.seq, .int .i64 y.time, .slice A' y.labs.length c', .string ⟨y.line.toArray⟩] 27)) := ((Below.refl _ W).alloc (Nat.le_refl _) _).alloc (by simp) _
  clear hv
  unfold entV
  obtain ⟨xs, xt, xl, xi⟩ := x
  obtain ⟨ys, yt, yl, yi⟩ := y
  simp only at *
  by_cases h1 : xt < yt
  · go_enter Tryd.func10, Tryd.ntmps10
    go_wp2_with fail
    go_ret
    simp [h1, hb]
  · by_cases h3 : xt = yt
    · subst h3
      have h3' : (xt == xt) = true := by simp
      by_cases h4 : xs < ys
      · go_enter Tryd.func10, Tryd.ntmps10
        go_wp2_with fail
        go_ret
        exact ⟨by simp [h1, h4], hb⟩
      · go_enter Tryd.func10, Tryd.ntmps10
        go_wp2_with fail
        go_ret
        exact ⟨by simp [h1, h4], hb⟩
    · have h3' : (xt == yt) = false := by simp [h3]
      go_enter Tryd.func10, Tryd.ntmps10
      go_wp2_with fail
      go_ret
      simp [h1, h3, hb]
set_option maxHeartbeats 8000000 in
set_option maxRecDepth 100000 in
theorem R3Sort_is (v : Value) (l : List Ent) (w : World) (hR : RdE w v l) (hlen : l.length * 56 ≤ 140737488351232) :
    Calls Tryd.prog 8 #[v] w (SortedOut l w) := by
  obtain ⟨X, hX, hV, hL⟩ := hR.places
  have hXl : X.length = l.length := by rw [← hX, List.length_map]
  obtain ⟨A, c, rfl, hlc, hcell⟩ := hV
  have HL := hid hL
  have HX := hid hX
  clear hR hL hX
  obtain ⟨N, hn⟩ : ∃ N, N = X.length := ⟨_, rfl⟩
  have HNX := hid hn
  have hn60 : N * 56 ≤ 140737488351232 := by omega
  have HLN : Hid (N = l.length) := hid (by omega)
  rw [← hn] at hlc ⊢
  have hcell : 0 < N → _ := fun h => hcell (by rw [← hn]; exact h)
  clear hn hXl hlen
  go_enter Tryd.func8, Tryd.ntmps8
  go_wp2_with fail
  go_loopw [3, 4] (fun ov iv wr => ∃ (i : Nat) (O : List EV), iv = .int .i64 i ∧ i ≤ N ∧ OwnV wr w.heap.size ov O ∧ Hid (O.length = i) ∧ Hid (StableOf ltE (X.take i) O) ∧ O.length ≤ N ∧ Below w.heap.size w wr) (fun _ iv _ => N - (intOf iv).toNat)
  case atStart => exact ⟨0, [], rfl, by omega, OwnV.nil _ _, hid rfl, hid (by rw [List.take_zero]; exact StableOf.refl .nil), by simp, Below.refl _ _⟩
  case round =>
    obtain ⟨i, O, rfl, hi, ho, HOL, HS, hON, hbw⟩ := hrel
    by_cases hlt : i < N
    · have hlt' : (i : Int) < (N : Int) := by omega
      have hiX : i < X.length := by have := HNX.out; omega
      obtain ⟨b, off, rfl, hb, hcl⟩ := hcell (by omega)
      have hcl := hcl i hiX
      have HTK : Hid (X.take (i + 1) = X.take i ++ [X[i]]) := hid (List.take_succ_eq_append_getElem hiX)
      have hON1 : O.length + 1 ≤ N := by have := HOL.out; omega
      generalize X[i] = x at *
      clear hcell hiX
      have KX : ∀ w', Below wr.heap.size wr w' → w'.cell? ⟨b, off + i * 4, none⟩ = some (.int .i64 x.1.seq) ∧ w'.cell? ⟨b, off + i * 4 + 1, none⟩ = some (.int .i64 x.1.time) ∧ w'.cell? ⟨b, off + i * 4 + 2, none⟩ = some (.slice x.2.1 x.1.labs.length x.2.2) ∧ w'.cell? ⟨b, off + i * 4 + 3, none⟩ = some (.string ⟨x.1.line.toArray⟩) := fun w' h => by
        have hbb := hbw.trans (h.mono hbw.size)
        exact ⟨(hbb.cell (p := ⟨b, off + i * 4, none⟩) hb).trans hcl.1, (hbb.cell (p := ⟨b, off + i * 4 + 1, none⟩) hb).trans hcl.2.1, (hbb.cell (p := ⟨b, off + i * 4 + 2, none⟩) hb).trans hcl.2.2.1, (hbb.cell (p := ⟨b, off + i * 4 + 3, none⟩) hb).trans hcl.2.2.2⟩
      have hbz := Nat.lt_of_lt_of_le hb hbw.size
      have ho2 := ho.rd
      obtain ⟨AO, co, rfl, hoc, hocell⟩ := id ho2
      have FIN0 : Hid (∀ k, k ≤ O.length → (∀ j (hj : j < O.length), k ≤ j → ltE x O[j] = true) → (∀ (_h0 : 0 < k) (hj : k - 1 < O.length), ltE x O[k - 1] = false) →
          Hid ((O.take k ++ x :: O.drop k).length = i + 1) ∧ Hid (StableOf ltE (X.take (i + 1)) (O.take k ++ x :: O.drop k)) ∧ (O.take k ++ x :: O.drop k).length ≤ N) := hid (fun k hk h1 h2 => by
        have e1 : (O.take k ++ x :: O.drop k).length = i + 1 := by
          have := HOL.out
          rw [List.length_append, List.length_cons, List.length_take, List.length_drop]
          omega
        exact ⟨hid e1, hid (by rw [HTK.out]; exact ins_stable HS.out hk h1 h2), by rw [e1]; omega⟩)
      clear hcl HS HOL HTK ho
      generalize wr = wo at *
      go_wp2_with fail
      go_loopw [5] (fun kv ws => ∃ k : Nat, kv = .int .i64 (k : Int) ∧ k ≤ O.length ∧ Below wo.heap.size wo ws ∧ Hid (∀ j (hj : j < O.length), k ≤ j → ltE x O[j] = true)) (fun kv _ => (intOf kv).toNat)
      case atStart => exact ⟨O.length, rfl, by omega, Below.refl _ _, hid (fun j hj h => by omega)⟩
      case round =>
        obtain ⟨k, rfl, hk, hbs, HK⟩ := hrel
        by_cases hk0 : k = 0
        · have FIN := hid (FIN0.out k hk HK.out (fun h => absurd h (by omega)))
          subst hk0
          clear HK FIN0
          go_wp2_with fail
          refine wp_region_held_drew (S := fun _ => True) (by kernel_rfl) trivial (fun hHeld => ?_)
          refine takeAt (i := 0) (d := 14) (v := .int .i64 0) rfl rfl (by kernel_rfl) (by kernel_rfl) (by kernel_rfl) (fun _ _ _ h => h) (Or.inl ⟨by rfl, fun w hSw => by go_simp⟩) hHeld ?_
          simp only [List.setIfInBounds_toArray, List.set_cons_zero, List.set_cons_succ]
          refine takeAt (i := 1) (d := 15) (v := .bool false) rfl rfl (by kernel_rfl) (by kernel_rfl) (by kernel_rfl) (fun _ _ _ h => h) (Or.inl ⟨by rfl, fun w hSw => by go_simp⟩) hHeld ?_
          simp only [List.setIfInBounds_toArray, List.set_cons_zero, List.set_cons_succ]
          refine takeAt (i := 2) (d := 16) (v := .bool false) rfl rfl (by kernel_rfl) (by kernel_rfl) (by kernel_rfl) (fun _ _ _ h => h) (Or.inl ⟨by rfl, fun w hSw => by go_simp⟩) hHeld ?_
          simp only [List.setIfInBounds_toArray, List.set_cons_zero, List.set_cons_succ]
          refine takeAt (i := 3) (d := 17) (v := undef) rfl rfl (by kernel_rfl) (by kernel_rfl) (by kernel_rfl) (fun _ _ _ h => h) (Or.inr ⟨by rfl, rfl⟩) hHeld ?_
          simp only [List.setIfInBounds_toArray, List.set_cons_zero, List.set_cons_succ]
          refine takeAt (i := 4) (d := 18) (v := undef) rfl rfl (by kernel_rfl) (by kernel_rfl) (by kernel_rfl) (fun _ _ _ h => h) (Or.inr ⟨by rfl, rfl⟩) hHeld ?_
          simp only [List.setIfInBounds_toArray, List.set_cons_zero, List.set_cons_succ]
          refine takeAt (i := 5) (d := 19) (v := undef) rfl rfl (by kernel_rfl) (by kernel_rfl) (by kernel_rfl) (fun _ _ _ h => h) (Or.inr ⟨by rfl, rfl⟩) hHeld ?_
          simp only [List.setIfInBounds_toArray, List.set_cons_zero, List.set_cons_succ]
          refine takeAt (i := 6) (d := 20) (v := undef) rfl rfl (by kernel_rfl) (by kernel_rfl) (by kernel_rfl) (fun _ _ _ h => h) (Or.inr ⟨by rfl, rfl⟩) hHeld ?_
          simp only [List.setIfInBounds_toArray, List.set_cons_zero, List.set_cons_succ]
          refine takeAt (i := 7) (d := 21) (v := undef) rfl rfl (by kernel_rfl) (by kernel_rfl) (by kernel_rfl) (fun _ _ _ h => h) (Or.inr ⟨by rfl, rfl⟩) hHeld ?_
          simp only [List.setIfInBounds_toArray, List.set_cons_zero, List.set_cons_succ]
          refine takeAt (i := 8) (d := 22) (v := undef) rfl rfl (by kernel_rfl) (by kernel_rfl) (by kernel_rfl) (fun _ _ _ h => h) (Or.inr ⟨by rfl, rfl⟩) hHeld ?_
          simp only [List.setIfInBounds_toArray, List.set_cons_zero, List.set_cons_succ]
          refine takeAt (i := 9) (d := 23) (v := undef) rfl rfl (by kernel_rfl) (by kernel_rfl) (by kernel_rfl) (fun _ _ _ h => h) (Or.inr ⟨by rfl, rfl⟩) hHeld ?_
          simp only [List.setIfInBounds_toArray, List.set_cons_zero, List.set_cons_succ]
          refine takeAt (i := 10) (d := 24) (v := undef) rfl rfl (by kernel_rfl) (by kernel_rfl) (by kernel_rfl) (fun _ _ _ h => h) (Or.inr ⟨by rfl, rfl⟩) hHeld ?_
          simp only [List.setIfInBounds_toArray, List.set_cons_zero, List.set_cons_succ]
          refine takeAt (i := 11) (d := 25) (v := undef) rfl rfl (by kernel_rfl) (by kernel_rfl) (by kernel_rfl) (fun _ _ _ h => h) (Or.inr ⟨by rfl, rfl⟩) hHeld ?_
          simp only [List.setIfInBounds_toArray, List.set_cons_zero, List.set_cons_succ]
          refine takeAt (i := 12) (d := 26) (v := undef) rfl rfl (by kernel_rfl) (by kernel_rfl) (by kernel_rfl) (fun _ _ _ h => h) (Or.inr ⟨by rfl, rfl⟩) hHeld ?_
          simp only [List.setIfInBounds_toArray, List.set_cons_zero, List.set_cons_succ]
          refine takeAt (i := 13) (d := 27) (v := .bool false) rfl rfl (by kernel_rfl) (by kernel_rfl) (by kernel_rfl) (fun _ _ _ h => h) (Or.inl ⟨by rfl, fun w hSw => by go_simp⟩) hHeld ?_
          simp only [List.setIfInBounds_toArray, List.set_cons_zero, List.set_cons_succ]
          refine wpAnyH_done (by kernel_rfl) ?_ _
          go_wp2_with fail
          have hs1 : ∀ wx, (Instr.slice 22 (.slice AO O.length co) none (some (.int .i64 (0 : Int))) none).run Tryd.prog wx = .ok (sliced AO 0 0 co 4) wx := fun wx => run_topV (hi := 0) (by omega) wx
          have hs2 : ∀ wx, (Instr.slice 22 (.slice AO O.length co) (some (.int .i64 (0 : Int))) none none).run Tryd.prog wx = .ok (sliced AO 0 O.length co 4) wx := fun wx => run_fromV (s := 0) (by omega) wx
          have r1 := (ho2.below hbs).part 0 0 (by omega) (by omega)
          have r2 := (ho2.below hbs).part 0 O.length (by omega) (Nat.le_refl _)
          rw [Nat.sub_zero, List.drop_zero] at r1 r2
          rw [List.take_of_length_le (Nat.le_refl _)] at r2
          generalize sliced AO 0 0 co 4 = v1 at *
          generalize sliced AO 0 O.length co 4 = v2 at *
          obtain ⟨hx0, hx1, hx2, hx3⟩ := KX _ hbs
          have hbs3 := Nat.lt_of_lt_of_le hbz hbs.size
          have hbs0 := Nat.le_trans hbw.size hbs.size
          refine wp_region_held_drew (S := fun w' => Below wr.heap.size wr w') (by kernel_rfl) (Below.refl _ _).drew.drew (fun hHeld => ?_)
          refine takeAt (i := 1) (d := 31) (v := .slice AO O.length co) rfl rfl (by kernel_rfl) (by kernel_rfl) (by kernel_rfl) (fun _ _ _ h => h) (Or.inl ⟨by rfl, fun w hSw => by go_simp⟩) hHeld ?_
          simp only [List.setIfInBounds_toArray, List.set_cons_zero, List.set_cons_succ]
          refine takeAt (i := 2) (d := 32) (v := .int .i64 0) rfl rfl (by kernel_rfl) (by kernel_rfl) (by kernel_rfl) (fun _ _ _ h => h) (Or.inl ⟨by rfl, fun w hSw => by go_simp⟩) hHeld ?_
          simp only [List.setIfInBounds_toArray, List.set_cons_zero, List.set_cons_succ]
          refine takeAt (i := 3) (d := 33) (v := v1) rfl rfl (by kernel_rfl) (by kernel_rfl) (by kernel_rfl) (fun _ _ _ h => h) (Or.inl ⟨by rfl, fun w hSw => by go_simp⟩) hHeld ?_
          simp only [List.setIfInBounds_toArray, List.set_cons_zero, List.set_cons_succ]
          refine takeAt (i := 5) (d := 35) (v := .slice (some ⟨b, off, none⟩) N c) rfl rfl (by kernel_rfl) (by kernel_rfl) (by kernel_rfl) (fun _ _ _ h => h) (Or.inl ⟨by rfl, fun w hSw => by go_simp⟩) hHeld ?_
          simp only [List.setIfInBounds_toArray, List.set_cons_zero, List.set_cons_succ]
          refine takeAt (i := 6) (d := 36) (v := .int .i64 (i : Int)) rfl rfl (by kernel_rfl) (by kernel_rfl) (by kernel_rfl) (fun _ _ _ h => h) (Or.inl ⟨by rfl, fun w hSw => by go_simp⟩) hHeld ?_
          simp only [List.setIfInBounds_toArray, List.set_cons_zero, List.set_cons_succ]
          refine takeAt (i := 7) (d := 37) (v := .pointer (some ⟨b, off + i * 4, none⟩)) rfl rfl (by kernel_rfl) (by kernel_rfl) (by kernel_rfl) (fun _ _ _ h => h) (Or.inl ⟨by rfl, fun w hSw => by go_simp⟩) hHeld ?_
          simp only [List.setIfInBounds_toArray, List.set_cons_zero, List.set_cons_succ]
          refine takeAt (i := 8) (d := 38) (v := .agg #[.int .i64 x.1.seq, .int .i64 x.1.time, .slice x.2.1 x.1.labs.length x.2.2, .string ⟨x.1.line.toArray⟩]) rfl rfl (by kernel_rfl) (by kernel_rfl) (by kernel_rfl) (fun _ _ _ h => h) (Or.inl ⟨by rfl, fun w hSw => by have g0 := (hSw.cell (p := ⟨b, off + i * 4, none⟩) hbs3).trans hx0; have g1 := (hSw.cell (p := ⟨b, off + i * 4 + 1, none⟩) hbs3).trans hx1; have g2 := (hSw.cell (p := ⟨b, off + i * 4 + 2, none⟩) hbs3).trans hx2; have g3 := (hSw.cell (p := ⟨b, off + i * 4 + 3, none⟩) hbs3).trans hx3; go_simp⟩) hHeld ?_
          simp only [List.setIfInBounds_toArray, List.set_cons_zero, List.set_cons_succ]
          refine takeAt (i := 11) (d := 41) (v := .slice AO O.length co) rfl rfl (by kernel_rfl) (by kernel_rfl) (by kernel_rfl) (fun _ _ _ h => h) (Or.inl ⟨by rfl, fun w hSw => by go_simp⟩) hHeld ?_
          simp only [List.setIfInBounds_toArray, List.set_cons_zero, List.set_cons_succ]
          refine takeAt (i := 12) (d := 42) (v := .int .i64 0) rfl rfl (by kernel_rfl) (by kernel_rfl) (by kernel_rfl) (fun _ _ _ h => h) (Or.inl ⟨by rfl, fun w hSw => by go_simp⟩) hHeld ?_
          simp only [List.setIfInBounds_toArray, List.set_cons_zero, List.set_cons_succ]
          refine takeAt (i := 13) (d := 43) (v := v2) rfl rfl (by kernel_rfl) (by kernel_rfl) (by kernel_rfl) (fun _ _ _ h => h) (Or.inl ⟨by rfl, fun w hSw => by go_simp⟩) hHeld ?_
          simp only [List.setIfInBounds_toArray, List.set_cons_zero, List.set_cons_succ]
          refine wpAnyH_ready (rs := [0, 9]) (by kernel_rfl) (by simp) ?_
          refine (AllReadyH.cons (o := { dst := some 30, op := Go.Op.buildSlice 22 0 #[], type := 22, pos := "ref.go:115", after := #[], guard := none }) rfl (fun K hK => ?_) (AllReadyH.cons (o := { dst := some 39, op := Go.Op.buildSlice 22 1 #[(0, Go.Operand.tmp 38)], type := 22, pos := "ref.go:115", after := #[{ on := 8, ground := Go.Ground.data }], guard := none }) rfl (fun K hK => ?_) AllReadyH.nil))
          · rw [if_pos (by rfl)]
            go_simp
            refine hK.out _ _ (hHeld.alloc (hHeld.size) _) (fun hHeld1 => ?_)
            clear hK K
            refine wpAnyH_ready (rs := [4, 9]) (by kernel_rfl) (by simp) ?_
            refine (AllReadyH.cons (o := { dst := some 34, op := Go.Op.call { callee := Go.Callee.builtin Go.Builtin.append, args := #[Go.Operand.tmp 30, Go.Operand.tmp 33], argTypes := #[22, 22] }, type := 22, pos := "ref.go:115", after := #[{ on := 0, ground := Go.Ground.data }, { on := 3, ground := Go.Ground.data }], guard := none }) rfl (fun K hK => ?_) (AllReadyH.cons (o := { dst := some 39, op := Go.Op.buildSlice 22 1 #[(0, Go.Operand.tmp 38)], type := 22, pos := "ref.go:115", after := #[{ on := 8, ground := Go.Ground.data }], guard := none }) rfl (fun K hK => ?_) AllReadyH.nil))
            · refine step_appV rfl (.tmp 30) (.tmp 33) rfl wr.heap.size _ _ [] (O.take 0) (by simp [Act.eval]) (OwnV.made wr.drew.drew (Nat.le_refl _)) (by simp [Act.eval]) (r1.below hHeld1) (by first | (simp; done) | (simp; omega)) hHeld1.size ?_
              intro v3 w3 o3 b3 g3 _
              refine hK.out _ _ (hHeld1.trans b3) (fun hHeld2 => ?_)
              clear hK K
              simp only [Act.put, List.setIfInBounds_toArray, List.set_cons_zero, List.set_cons_succ]
              refine wpAnyH_ready (rs := [9]) (by kernel_rfl) (by simp) ?_
              refine (AllReadyH.cons (o := { dst := some 39, op := Go.Op.buildSlice 22 1 #[(0, Go.Operand.tmp 38)], type := 22, pos := "ref.go:115", after := #[{ on := 8, ground := Go.Ground.data }], guard := none }) rfl (fun K hK => ?_) AllReadyH.nil)
              rw [if_pos (by rfl)]
              go_simp
              refine hK.out _ _ (hHeld2.alloc (hHeld2.size) _) (fun hHeld3 => ?_)
              clear hK K
              refine wpAnyH_ready (rs := [10]) (by kernel_rfl) (by simp) ?_
              refine (AllReadyH.cons (o := { dst := some 40, op := Go.Op.call { callee := Go.Callee.builtin Go.Builtin.append, args := #[Go.Operand.tmp 34, Go.Operand.tmp 39], argTypes := #[22, 22] }, type := 22, pos := "ref.go:115", after := #[{ on := 4, ground := Go.Ground.data }, { on := 9, ground := Go.Ground.data }, { on := 4, ground := Go.Ground.chain }], guard := none }) rfl (fun K hK => ?_) AllReadyH.nil)
              refine step_appV rfl (.tmp 34) (.tmp 39) rfl wr.heap.size _ _ _ [x] (by simp [Act.eval]) (o3.alloc _) (by simp [Act.eval]) (RdV.one w3 x _ rfl) (by first | (simp; done) | (simp; omega)) hHeld3.size ?_
              intro v4 w4 o4 b4 g4 _
              refine hK.out _ _ (hHeld3.trans b4) (fun hHeldX => ?_)
              clear hK K
              simp only [Act.put, List.setIfInBounds_toArray, List.set_cons_zero, List.set_cons_succ]
              refine wpAnyH_ready (rs := [14]) (by kernel_rfl) (by simp) ?_
              refine (AllReadyH.cons (o := { dst := some 44, op := Go.Op.call { callee := Go.Callee.builtin Go.Builtin.append, args := #[Go.Operand.tmp 40, Go.Operand.tmp 43], argTypes := #[22, 22] }, type := 22, pos := "ref.go:115", after := #[{ on := 10, ground := Go.Ground.data }, { on := 13, ground := Go.Ground.data }, { on := 10, ground := Go.Ground.chain }], guard := none }) rfl (fun K hK => ?_) AllReadyH.nil)
              refine step_appV rfl (.tmp 40) (.tmp 43) rfl wr.heap.size _ _ _ (O.drop 0) (by simp [Act.eval]) o4 (by simp [Act.eval]) (r2.below hHeldX) (by first | (simp; done) | (simp; omega)) hHeldX.size ?_
              intro v5 w5 o5 b5 g5 _
              refine hK.out _ _ (hHeldX.trans b5) (fun hHeldY => ?_)
              clear hK K
              simp only [Act.put, List.setIfInBounds_toArray, List.set_cons_zero, List.set_cons_succ]
              refine takeAt (i := 15) (d := 3) (v := v5) rfl rfl (by kernel_rfl) (by kernel_rfl) (by kernel_rfl) (fun _ _ _ h => h) (Or.inl ⟨by rfl, fun w hSw => by go_simp⟩) hHeldY ?_
              simp only [List.setIfInBounds_toArray, List.set_cons_zero, List.set_cons_succ]
              refine wpAnyH_done (by kernel_rfl) ?_ _
              go_wp2
              go_roundw
              case rel => exact ⟨i + 1, O.take 0 ++ x :: O.drop 0, by go_num, by omega, by have := o5.mono hbs0; simpa using this, FIN.out.1, FIN.out.2.1, FIN.out.2.2, hbw.trans ((hbs.trans (hHeldY.mono hbs.size)).mono hbw.size)⟩
              case measure => first | (simp [intOf]; done) | (simp [intOf]; omega)
            · rw [if_pos (by rfl)]
              go_simp
              refine hK.out _ _ (hHeld1.alloc (hHeld1.size) _) (fun hHeld2 => ?_)
              clear hK K
              refine wpAnyH_ready (rs := [4]) (by kernel_rfl) (by simp) ?_
              refine (AllReadyH.cons (o := { dst := some 34, op := Go.Op.call { callee := Go.Callee.builtin Go.Builtin.append, args := #[Go.Operand.tmp 30, Go.Operand.tmp 33], argTypes := #[22, 22] }, type := 22, pos := "ref.go:115", after := #[{ on := 0, ground := Go.Ground.data }, { on := 3, ground := Go.Ground.data }], guard := none }) rfl (fun K hK => ?_) AllReadyH.nil)
              refine step_appV rfl (.tmp 30) (.tmp 33) rfl wr.heap.size _ _ [] (O.take 0) (by simp [Act.eval]) ((OwnV.made wr.drew.drew (Nat.le_refl _)).alloc _) (by simp [Act.eval]) (r1.below hHeld2) (by first | (simp; done) | (simp; omega)) hHeld2.size ?_
              intro v3 w3 o3 b3 g3 _
              refine hK.out _ _ (hHeld2.trans b3) (fun hHeld3 => ?_)
              clear hK K
              simp only [Act.put, List.setIfInBounds_toArray, List.set_cons_zero, List.set_cons_succ]
              refine wpAnyH_ready (rs := [10]) (by kernel_rfl) (by simp) ?_
              refine (AllReadyH.cons (o := { dst := some 40, op := Go.Op.call { callee := Go.Callee.builtin Go.Builtin.append, args := #[Go.Operand.tmp 34, Go.Operand.tmp 39], argTypes := #[22, 22] }, type := 22, pos := "ref.go:115", after := #[{ on := 4, ground := Go.Ground.data }, { on := 9, ground := Go.Ground.data }, { on := 4, ground := Go.Ground.chain }], guard := none }) rfl (fun K hK => ?_) AllReadyH.nil)
              refine step_appV rfl (.tmp 34) (.tmp 39) rfl wr.heap.size _ _ _ [x] (by simp [Act.eval]) o3 (by simp [Act.eval]) (RdV.far g3 (RdV.one (wr.drew.drew.alloc (.cells #[] 27)) x _ rfl) (by simp [Value.ownBlock])) (by first | (simp; done) | (simp; omega)) hHeld3.size ?_
              intro v4 w4 o4 b4 g4 _
              refine hK.out _ _ (hHeld3.trans b4) (fun hHeldX => ?_)
              clear hK K
              simp only [Act.put, List.setIfInBounds_toArray, List.set_cons_zero, List.set_cons_succ]
              refine wpAnyH_ready (rs := [14]) (by kernel_rfl) (by simp) ?_
              refine (AllReadyH.cons (o := { dst := some 44, op := Go.Op.call { callee := Go.Callee.builtin Go.Builtin.append, args := #[Go.Operand.tmp 40, Go.Operand.tmp 43], argTypes := #[22, 22] }, type := 22, pos := "ref.go:115", after := #[{ on := 10, ground := Go.Ground.data }, { on := 13, ground := Go.Ground.data }, { on := 10, ground := Go.Ground.chain }], guard := none }) rfl (fun K hK => ?_) AllReadyH.nil)
              refine step_appV rfl (.tmp 40) (.tmp 43) rfl wr.heap.size _ _ _ (O.drop 0) (by simp [Act.eval]) o4 (by simp [Act.eval]) (r2.below hHeldX) (by first | (simp; done) | (simp; omega)) hHeldX.size ?_
              intro v5 w5 o5 b5 g5 _
              refine hK.out _ _ (hHeldX.trans b5) (fun hHeldY => ?_)
              clear hK K
              simp only [Act.put, List.setIfInBounds_toArray, List.set_cons_zero, List.set_cons_succ]
              refine takeAt (i := 15) (d := 3) (v := v5) rfl rfl (by kernel_rfl) (by kernel_rfl) (by kernel_rfl) (fun _ _ _ h => h) (Or.inl ⟨by rfl, fun w hSw => by go_simp⟩) hHeldY ?_
              simp only [List.setIfInBounds_toArray, List.set_cons_zero, List.set_cons_succ]
              refine wpAnyH_done (by kernel_rfl) ?_ _
              go_wp2
              go_roundw
              case rel => exact ⟨i + 1, O.take 0 ++ x :: O.drop 0, by go_num, by omega, by have := o5.mono hbs0; simpa using this, FIN.out.1, FIN.out.2.1, FIN.out.2.2, hbw.trans ((hbs.trans (hHeldY.mono hbs.size)).mono hbw.size)⟩
              case measure => first | (simp [intOf]; done) | (simp [intOf]; omega)
          · rw [if_pos (by rfl)]
            go_simp
            refine hK.out _ _ (hHeld.alloc (hHeld.size) _) (fun hHeld1 => ?_)
            clear hK K
            refine wpAnyH_ready (rs := [0]) (by kernel_rfl) (by simp) ?_
            refine (AllReadyH.cons (o := { dst := some 30, op := Go.Op.buildSlice 22 0 #[], type := 22, pos := "ref.go:115", after := #[], guard := none }) rfl (fun K hK => ?_) AllReadyH.nil)
            rw [if_pos (by rfl)]
            go_simp
            refine hK.out _ _ (hHeld1.alloc (hHeld1.size) _) (fun hHeld2 => ?_)
            clear hK K
            refine wpAnyH_ready (rs := [4]) (by kernel_rfl) (by simp) ?_
            refine (AllReadyH.cons (o := { dst := some 34, op := Go.Op.call { callee := Go.Callee.builtin Go.Builtin.append, args := #[Go.Operand.tmp 30, Go.Operand.tmp 33], argTypes := #[22, 22] }, type := 22, pos := "ref.go:115", after := #[{ on := 0, ground := Go.Ground.data }, { on := 3, ground := Go.Ground.data }], guard := none }) rfl (fun K hK => ?_) AllReadyH.nil)
            refine step_appV rfl (.tmp 30) (.tmp 33) rfl wr.heap.size _ _ [] (O.take 0) (by simp [Act.eval]) (OwnV.made _ hHeld1.size) (by simp [Act.eval]) (r1.below hHeld2) (by first | (simp; done) | (simp; omega)) hHeld2.size ?_
            intro v3 w3 o3 b3 g3 _
            refine hK.out _ _ (hHeld2.trans b3) (fun hHeld3 => ?_)
            clear hK K
            simp only [Act.put, List.setIfInBounds_toArray, List.set_cons_zero, List.set_cons_succ]
            refine wpAnyH_ready (rs := [10]) (by kernel_rfl) (by simp) ?_
            refine (AllReadyH.cons (o := { dst := some 40, op := Go.Op.call { callee := Go.Callee.builtin Go.Builtin.append, args := #[Go.Operand.tmp 34, Go.Operand.tmp 39], argTypes := #[22, 22] }, type := 22, pos := "ref.go:115", after := #[{ on := 4, ground := Go.Ground.data }, { on := 9, ground := Go.Ground.data }, { on := 4, ground := Go.Ground.chain }], guard := none }) rfl (fun K hK => ?_) AllReadyH.nil)
            refine step_appV rfl (.tmp 34) (.tmp 39) rfl wr.heap.size _ _ _ [x] (by simp [Act.eval]) o3 (by simp [Act.eval]) (RdV.far g3 ((RdV.one wr.drew.drew x _ rfl).below ((Below.refl _ _).alloc (Nat.le_refl _) _)) (by simp [Value.ownBlock])) (by first | (simp; done) | (simp; omega)) hHeld3.size ?_
            intro v4 w4 o4 b4 g4 _
            refine hK.out _ _ (hHeld3.trans b4) (fun hHeldX => ?_)
            clear hK K
            simp only [Act.put, List.setIfInBounds_toArray, List.set_cons_zero, List.set_cons_succ]
            refine wpAnyH_ready (rs := [14]) (by kernel_rfl) (by simp) ?_
            refine (AllReadyH.cons (o := { dst := some 44, op := Go.Op.call { callee := Go.Callee.builtin Go.Builtin.append, args := #[Go.Operand.tmp 40, Go.Operand.tmp 43], argTypes := #[22, 22] }, type := 22, pos := "ref.go:115", after := #[{ on := 10, ground := Go.Ground.data }, { on := 13, ground := Go.Ground.data }, { on := 10, ground := Go.Ground.chain }], guard := none }) rfl (fun K hK => ?_) AllReadyH.nil)
            refine step_appV rfl (.tmp 40) (.tmp 43) rfl wr.heap.size _ _ _ (O.drop 0) (by simp [Act.eval]) o4 (by simp [Act.eval]) (r2.below hHeldX) (by first | (simp; done) | (simp; omega)) hHeldX.size ?_
            intro v5 w5 o5 b5 g5 _
            refine hK.out _ _ (hHeldX.trans b5) (fun hHeldY => ?_)
            clear hK K
            simp only [Act.put, List.setIfInBounds_toArray, List.set_cons_zero, List.set_cons_succ]
            refine takeAt (i := 15) (d := 3) (v := v5) rfl rfl (by kernel_rfl) (by kernel_rfl) (by kernel_rfl) (fun _ _ _ h => h) (Or.inl ⟨by rfl, fun w hSw => by go_simp⟩) hHeldY ?_
            simp only [List.setIfInBounds_toArray, List.set_cons_zero, List.set_cons_succ]
            refine wpAnyH_done (by kernel_rfl) ?_ _
            go_wp2
            go_roundw
            case rel => exact ⟨i + 1, O.take 0 ++ x :: O.drop 0, by go_num, by omega, by have := o5.mono hbs0; simpa using this, FIN.out.1, FIN.out.2.1, FIN.out.2.2, hbw.trans ((hbs.trans (hHeldY.mono hbs.size)).mono hbw.size)⟩
            case measure => first | (simp [intOf]; done) | (simp [intOf]; omega)
        · have hk0' : (0 : Int) < (k : Int) := by omega
          have hkd : decide ((0 : Int) < (k : Int)) = true := decide_eq_true hk0'
          obtain ⟨j, hj⟩ : ∃ j, k = j + 1 := ⟨k - 1, by omega⟩
          obtain ⟨g, og, rfl, hg, hgc⟩ := hocell (by omega)
          have hjl : j < O.length := by omega
          have KY : ∀ w', Below wo.heap.size wo w' → w'.cell? ⟨g, og + j * 4, none⟩ = some (.int .i64 (O[j]).1.seq) ∧ w'.cell? ⟨g, og + j * 4 + 1, none⟩ = some (.int .i64 (O[j]).1.time) ∧ w'.cell? ⟨g, og + j * 4 + 2, none⟩ = some (.slice (O[j]).2.1 (O[j]).1.labs.length (O[j]).2.2) ∧ w'.cell? ⟨g, og + j * 4 + 3, none⟩ = some (.string ⟨(O[j]).1.line.toArray⟩) := fun w' h => ⟨(h.cell (p := ⟨g, og + j * 4, none⟩) hg).trans (hgc j hjl).1, (h.cell (p := ⟨g, og + j * 4 + 1, none⟩) hg).trans (hgc j hjl).2.1, (h.cell (p := ⟨g, og + j * 4 + 2, none⟩) hg).trans (hgc j hjl).2.2.1, (h.cell (p := ⟨g, og + j * 4 + 3, none⟩) hg).trans (hgc j hjl).2.2.2⟩
          have HT : Hid (ltE x O[j] = true → ∀ q (hq : q < O.length), j ≤ q → ltE x O[q] = true) := hid (fun h q hq hjq => by
            rcases Nat.lt_or_ge q k with h4 | h4
            · have h6 : q = j := by omega
              subst h6; exact h
            · exact HK.out q hq h4)
          have HFN : Hid (ltE x O[j] = false → Hid ((O.take k ++ x :: O.drop k).length = i + 1) ∧ Hid (StableOf ltE (X.take (i + 1)) (O.take k ++ x :: O.drop k)) ∧ (O.take k ++ x :: O.drop k).length ≤ N) := hid (fun h => FIN0.out k hk HK.out (fun _ hq => by
            subst hj
            simpa using h))
          have hlt0 : ltE x O[j] = ltT x.1 (O[j]).1 := rfl
          have zk : (k : Int) - 1 = (j : Int) := by omega
          have zk0 : (0 : Int) ≤ (j : Int) := by omega
          have zkl : (j : Int) < (O.length : Int) := by omega
          have zw : IntKind.i64.wrap (j : Int) = (j : Int) := by rw [IntKind.wrap_i64]; omega
          have zw2 : IntKind.i64.wrap ((k : Int) - 1) = (j : Int) := by rw [IntKind.wrap_i64]; omega
          have HJ := hid hj
          clear HK FIN0 hgc hocell hj
          generalize O[j] = y at *
          clear hjl
          have HBf := fun w1 => R3Before_is x.1 y.1 x.2.1 y.2.1 x.2.2 y.2.2 w1
          unfold entV at HBf
          rw [← hlt0] at HBf
          clear hlt0
          have hk1 : Below wo.heap.size wo wr.drew := ⟨hbs.os, hbs.tape, hbs.output, hbs.size, hbs.block⟩
          have mkS : ∀ w', Below wo.heap.size wo w' → Below wo.heap.size wo w' ∧ w'.cell? ⟨b, off + i * 4, none⟩ = some (.int .i64 x.1.seq) ∧ w'.cell? ⟨b, off + i * 4 + 1, none⟩ = some (.int .i64 x.1.time) ∧ w'.cell? ⟨b, off + i * 4 + 2, none⟩ = some (.slice x.2.1 x.1.labs.length x.2.2) ∧ w'.cell? ⟨b, off + i * 4 + 3, none⟩ = some (.string ⟨x.1.line.toArray⟩) ∧ w'.cell? ⟨g, og + j * 4, none⟩ = some (.int .i64 y.1.seq) ∧ w'.cell? ⟨g, og + j * 4 + 1, none⟩ = some (.int .i64 y.1.time) ∧ w'.cell? ⟨g, og + j * 4 + 2, none⟩ = some (.slice y.2.1 y.1.labs.length y.2.2) ∧ w'.cell? ⟨g, og + j * 4 + 3, none⟩ = some (.string ⟨y.1.line.toArray⟩) := fun w' h => ⟨h, (KX _ h).1, (KX _ h).2.1, (KX _ h).2.2.1, (KX _ h).2.2.2, (KY _ h).1, (KY _ h).2.1, (KY _ h).2.2.1, (KY _ h).2.2.2⟩
          have hk9 := mkS wr.drew hk1
          cases hB : ltE x y with
          | true =>
            rw [hB] at HBf
            have HT2 := hid (HT.out hB)
            clear HT HFN hB
            go_wp2_with fail
            refine wp_region_held_drew (S := fun w' => Below wo.heap.size wo w' ∧ w'.cell? ⟨b, off + i * 4, none⟩ = some (.int .i64 x.1.seq) ∧ w'.cell? ⟨b, off + i * 4 + 1, none⟩ = some (.int .i64 x.1.time) ∧ w'.cell? ⟨b, off + i * 4 + 2, none⟩ = some (.slice x.2.1 x.1.labs.length x.2.2) ∧ w'.cell? ⟨b, off + i * 4 + 3, none⟩ = some (.string ⟨x.1.line.toArray⟩) ∧ w'.cell? ⟨g, og + j * 4, none⟩ = some (.int .i64 y.1.seq) ∧ w'.cell? ⟨g, og + j * 4 + 1, none⟩ = some (.int .i64 y.1.time) ∧ w'.cell? ⟨g, og + j * 4 + 2, none⟩ = some (.slice y.2.1 y.1.labs.length y.2.2) ∧ w'.cell? ⟨g, og + j * 4 + 3, none⟩ = some (.string ⟨y.1.line.toArray⟩)) (by kernel_rfl) hk9 (fun hHeld => ?_)
            refine takeAt (i := 0) (d := 14) (v := .int .i64 (k : Int)) rfl rfl (by kernel_rfl) (by kernel_rfl) (by kernel_rfl) (fun _ _ _ h => h) (Or.inl ⟨by rfl, fun w hSw => by obtain ⟨hS0, hS1, hS2, hS3, hS4, hS5, hS6, hS7, hS8⟩ := hSw; go_simp⟩) hHeld ?_
            simp only [List.setIfInBounds_toArray, List.set_cons_zero, List.set_cons_succ]
            refine takeAt (i := 1) (d := 15) (v := .bool true) rfl rfl (by kernel_rfl) (by kernel_rfl) (by kernel_rfl) (fun _ _ _ h => h) (Or.inl ⟨by rfl, fun w hSw => by obtain ⟨hS0, hS1, hS2, hS3, hS4, hS5, hS6, hS7, hS8⟩ := hSw; go_simp; omega⟩) hHeld ?_
            simp only [List.setIfInBounds_toArray, List.set_cons_zero, List.set_cons_succ]
            refine takeAt (i := 2) (d := 16) (v := .bool true) rfl rfl (by kernel_rfl) (by kernel_rfl) (by kernel_rfl) (fun _ _ _ h => h) (Or.inl ⟨by rfl, fun w hSw => by obtain ⟨hS0, hS1, hS2, hS3, hS4, hS5, hS6, hS7, hS8⟩ := hSw; go_simp⟩) hHeld ?_
            simp only [List.setIfInBounds_toArray, List.set_cons_zero, List.set_cons_succ]
            refine takeAt (i := 3) (d := 17) (v := .slice (some ⟨b, off, none⟩) N c) rfl rfl (by kernel_rfl) (by kernel_rfl) (by kernel_rfl) (fun _ _ _ h => h) (Or.inl ⟨by rfl, fun w hSw => by obtain ⟨hS0, hS1, hS2, hS3, hS4, hS5, hS6, hS7, hS8⟩ := hSw; go_simp⟩) hHeld ?_
            simp only [List.setIfInBounds_toArray, List.set_cons_zero, List.set_cons_succ]
            refine takeAt (i := 4) (d := 18) (v := .int .i64 (i : Int)) rfl rfl (by kernel_rfl) (by kernel_rfl) (by kernel_rfl) (fun _ _ _ h => h) (Or.inl ⟨by rfl, fun w hSw => by obtain ⟨hS0, hS1, hS2, hS3, hS4, hS5, hS6, hS7, hS8⟩ := hSw; go_simp⟩) hHeld ?_
            simp only [List.setIfInBounds_toArray, List.set_cons_zero, List.set_cons_succ]
            refine takeAt (i := 5) (d := 19) (v := .pointer (some ⟨b, off + i * 4, none⟩)) rfl rfl (by kernel_rfl) (by kernel_rfl) (by kernel_rfl) (fun _ _ _ h => h) (Or.inl ⟨by rfl, fun w hSw => by obtain ⟨hS0, hS1, hS2, hS3, hS4, hS5, hS6, hS7, hS8⟩ := hSw; go_simp⟩) hHeld ?_
            simp only [List.setIfInBounds_toArray, List.set_cons_zero, List.set_cons_succ]
            refine takeAt (i := 6) (d := 20) (v := .agg #[.int .i64 x.1.seq, .int .i64 x.1.time, .slice x.2.1 x.1.labs.length x.2.2, .string ⟨x.1.line.toArray⟩]) rfl rfl (by kernel_rfl) (by kernel_rfl) (by kernel_rfl) (fun _ _ _ h => h) (Or.inl ⟨by rfl, fun w hSw => by obtain ⟨hS0, hS1, hS2, hS3, hS4, hS5, hS6, hS7, hS8⟩ := hSw; go_simp⟩) hHeld ?_
            simp only [List.setIfInBounds_toArray, List.set_cons_zero, List.set_cons_succ]
            refine takeAt (i := 7) (d := 21) (v := .slice (some ⟨g, og, none⟩) O.length co) rfl rfl (by kernel_rfl) (by kernel_rfl) (by kernel_rfl) (fun _ _ _ h => h) (Or.inl ⟨by rfl, fun w hSw => by obtain ⟨hS0, hS1, hS2, hS3, hS4, hS5, hS6, hS7, hS8⟩ := hSw; go_simp⟩) hHeld ?_
            simp only [List.setIfInBounds_toArray, List.set_cons_zero, List.set_cons_succ]
            refine takeAt (i := 8) (d := 22) (v := .int .i64 (k : Int)) rfl rfl (by kernel_rfl) (by kernel_rfl) (by kernel_rfl) (fun _ _ _ h => h) (Or.inl ⟨by rfl, fun w hSw => by obtain ⟨hS0, hS1, hS2, hS3, hS4, hS5, hS6, hS7, hS8⟩ := hSw; go_simp⟩) hHeld ?_
            simp only [List.setIfInBounds_toArray, List.set_cons_zero, List.set_cons_succ]
            refine takeAt (i := 9) (d := 23) (v := .int .i64 (j : Int)) rfl rfl (by kernel_rfl) (by kernel_rfl) (by kernel_rfl) (fun _ _ _ h => h) (Or.inl ⟨by rfl, fun w hSw => by obtain ⟨hS0, hS1, hS2, hS3, hS4, hS5, hS6, hS7, hS8⟩ := hSw; go_simp⟩) hHeld ?_
            simp only [List.setIfInBounds_toArray, List.set_cons_zero, List.set_cons_succ]
            refine takeAt (i := 10) (d := 24) (v := .pointer (some ⟨g, og + j * 4, none⟩)) rfl rfl (by kernel_rfl) (by kernel_rfl) (by kernel_rfl) (fun _ _ _ h => h) (Or.inl ⟨by rfl, fun w hSw => by obtain ⟨hS0, hS1, hS2, hS3, hS4, hS5, hS6, hS7, hS8⟩ := hSw; go_simp⟩) hHeld ?_
            simp only [List.setIfInBounds_toArray, List.set_cons_zero, List.set_cons_succ]
            refine takeAt (i := 11) (d := 25) (v := .agg #[.int .i64 y.1.seq, .int .i64 y.1.time, .slice y.2.1 y.1.labs.length y.2.2, .string ⟨y.1.line.toArray⟩]) rfl rfl (by kernel_rfl) (by kernel_rfl) (by kernel_rfl) (fun _ _ _ h => h) (Or.inl ⟨by rfl, fun w hSw => by obtain ⟨hS0, hS1, hS2, hS3, hS4, hS5, hS6, hS7, hS8⟩ := hSw; go_simp⟩) hHeld ?_
            simp only [List.setIfInBounds_toArray, List.set_cons_zero, List.set_cons_succ]
            refine wpAnyH_ready (rs := [12]) (by kernel_rfl) (by simp) ?_
            refine AllReadyH.cons (o := { dst := some 26, op := Go.Op.call { callee := Go.Callee.value (Go.Operand.func 10), args := #[Go.Operand.tmp 20, Go.Operand.tmp 25], argTypes := #[27, 27] }, type := 4, pos := "ref.go:112", after := #[{ on := 6, ground := Go.Ground.data }, { on := 11, ground := Go.Ground.data }, { on := 2, ground := Go.Ground.chain }, { on := 2, ground := Go.Ground.guard }], guard := some (2, true) }) rfl (fun K hK => ?_) AllReadyH.nil
            rw [if_pos (by rfl)]
            go_simp
            refine (HBf _).mono ?_
            rintro e w1 ⟨rfl, b1⟩
            refine hK.out _ _ (mkS _ (hk9.1.trans (b1.mono hk9.1.size))) (fun hHeld2 => ?_)
            clear hK K
            try simp only [Act.put, List.setIfInBounds_toArray, List.set_cons_zero, List.set_cons_succ]
            refine takeAt (i := 13) (d := 27) (v := .bool true) rfl rfl (by kernel_rfl) (by kernel_rfl) (by kernel_rfl) (fun _ _ _ h => h) (Or.inl ⟨by rfl, fun w hSw => by obtain ⟨hS0, hS1, hS2, hS3, hS4, hS5, hS6, hS7, hS8⟩ := hSw; go_simp⟩) hHeld2 ?_
            simp only [List.setIfInBounds_toArray, List.set_cons_zero, List.set_cons_succ]
            refine wpAnyH_done (by kernel_rfl) ?_ _
            have hw1 := hHeld2.1
            go_wp2_with fail
            go_roundw
            case rel => exact ⟨j, rfl, by have := HJ.out; omega, hw1, HT2⟩
            case measure => have := HJ.out; simp [intOf]; omega
          | false =>
            rw [hB] at HBf
            have FIN := hid (HFN.out hB)
            clear HT HFN hB
            go_wp2_with fail
            refine wp_region_held_drew (S := fun w' => Below wo.heap.size wo w' ∧ w'.cell? ⟨b, off + i * 4, none⟩ = some (.int .i64 x.1.seq) ∧ w'.cell? ⟨b, off + i * 4 + 1, none⟩ = some (.int .i64 x.1.time) ∧ w'.cell? ⟨b, off + i * 4 + 2, none⟩ = some (.slice x.2.1 x.1.labs.length x.2.2) ∧ w'.cell? ⟨b, off + i * 4 + 3, none⟩ = some (.string ⟨x.1.line.toArray⟩) ∧ w'.cell? ⟨g, og + j * 4, none⟩ = some (.int .i64 y.1.seq) ∧ w'.cell? ⟨g, og + j * 4 + 1, none⟩ = some (.int .i64 y.1.time) ∧ w'.cell? ⟨g, og + j * 4 + 2, none⟩ = some (.slice y.2.1 y.1.labs.length y.2.2) ∧ w'.cell? ⟨g, og + j * 4 + 3, none⟩ = some (.string ⟨y.1.line.toArray⟩)) (by kernel_rfl) hk9 (fun hHeld => ?_)
            refine takeAt (i := 0) (d := 14) (v := .int .i64 (k : Int)) rfl rfl (by kernel_rfl) (by kernel_rfl) (by kernel_rfl) (fun _ _ _ h => h) (Or.inl ⟨by rfl, fun w hSw => by obtain ⟨hS0, hS1, hS2, hS3, hS4, hS5, hS6, hS7, hS8⟩ := hSw; go_simp⟩) hHeld ?_
            simp only [List.setIfInBounds_toArray, List.set_cons_zero, List.set_cons_succ]
            refine takeAt (i := 1) (d := 15) (v := .bool true) rfl rfl (by kernel_rfl) (by kernel_rfl) (by kernel_rfl) (fun _ _ _ h => h) (Or.inl ⟨by rfl, fun w hSw => by obtain ⟨hS0, hS1, hS2, hS3, hS4, hS5, hS6, hS7, hS8⟩ := hSw; go_simp; omega⟩) hHeld ?_
            simp only [List.setIfInBounds_toArray, List.set_cons_zero, List.set_cons_succ]
            refine takeAt (i := 2) (d := 16) (v := .bool true) rfl rfl (by kernel_rfl) (by kernel_rfl) (by kernel_rfl) (fun _ _ _ h => h) (Or.inl ⟨by rfl, fun w hSw => by obtain ⟨hS0, hS1, hS2, hS3, hS4, hS5, hS6, hS7, hS8⟩ := hSw; go_simp⟩) hHeld ?_
            simp only [List.setIfInBounds_toArray, List.set_cons_zero, List.set_cons_succ]
            refine takeAt (i := 3) (d := 17) (v := .slice (some ⟨b, off, none⟩) N c) rfl rfl (by kernel_rfl) (by kernel_rfl) (by kernel_rfl) (fun _ _ _ h => h) (Or.inl ⟨by rfl, fun w hSw => by obtain ⟨hS0, hS1, hS2, hS3, hS4, hS5, hS6, hS7, hS8⟩ := hSw; go_simp⟩) hHeld ?_
            simp only [List.setIfInBounds_toArray, List.set_cons_zero, List.set_cons_succ]
            refine takeAt (i := 4) (d := 18) (v := .int .i64 (i : Int)) rfl rfl (by kernel_rfl) (by kernel_rfl) (by kernel_rfl) (fun _ _ _ h => h) (Or.inl ⟨by rfl, fun w hSw => by obtain ⟨hS0, hS1, hS2, hS3, hS4, hS5, hS6, hS7, hS8⟩ := hSw; go_simp⟩) hHeld ?_
            simp only [List.setIfInBounds_toArray, List.set_cons_zero, List.set_cons_succ]
            refine takeAt (i := 5) (d := 19) (v := .pointer (some ⟨b, off + i * 4, none⟩)) rfl rfl (by kernel_rfl) (by kernel_rfl) (by kernel_rfl) (fun _ _ _ h => h) (Or.inl ⟨by rfl, fun w hSw => by obtain ⟨hS0, hS1, hS2, hS3, hS4, hS5, hS6, hS7, hS8⟩ := hSw; go_simp⟩) hHeld ?_
            simp only [List.setIfInBounds_toArray, List.set_cons_zero, List.set_cons_succ]
            refine takeAt (i := 6) (d := 20) (v := .agg #[.int .i64 x.1.seq, .int .i64 x.1.time, .slice x.2.1 x.1.labs.length x.2.2, .string ⟨x.1.line.toArray⟩]) rfl rfl (by kernel_rfl) (by kernel_rfl) (by kernel_rfl) (fun _ _ _ h => h) (Or.inl ⟨by rfl, fun w hSw => by obtain ⟨hS0, hS1, hS2, hS3, hS4, hS5, hS6, hS7, hS8⟩ := hSw; go_simp⟩) hHeld ?_
            simp only [List.setIfInBounds_toArray, List.set_cons_zero, List.set_cons_succ]
            refine takeAt (i := 7) (d := 21) (v := .slice (some ⟨g, og, none⟩) O.length co) rfl rfl (by kernel_rfl) (by kernel_rfl) (by kernel_rfl) (fun _ _ _ h => h) (Or.inl ⟨by rfl, fun w hSw => by obtain ⟨hS0, hS1, hS2, hS3, hS4, hS5, hS6, hS7, hS8⟩ := hSw; go_simp⟩) hHeld ?_
            simp only [List.setIfInBounds_toArray, List.set_cons_zero, List.set_cons_succ]
            refine takeAt (i := 8) (d := 22) (v := .int .i64 (k : Int)) rfl rfl (by kernel_rfl) (by kernel_rfl) (by kernel_rfl) (fun _ _ _ h => h) (Or.inl ⟨by rfl, fun w hSw => by obtain ⟨hS0, hS1, hS2, hS3, hS4, hS5, hS6, hS7, hS8⟩ := hSw; go_simp⟩) hHeld ?_
            simp only [List.setIfInBounds_toArray, List.set_cons_zero, List.set_cons_succ]
            refine takeAt (i := 9) (d := 23) (v := .int .i64 (j : Int)) rfl rfl (by kernel_rfl) (by kernel_rfl) (by kernel_rfl) (fun _ _ _ h => h) (Or.inl ⟨by rfl, fun w hSw => by obtain ⟨hS0, hS1, hS2, hS3, hS4, hS5, hS6, hS7, hS8⟩ := hSw; go_simp⟩) hHeld ?_
            simp only [List.setIfInBounds_toArray, List.set_cons_zero, List.set_cons_succ]
            refine takeAt (i := 10) (d := 24) (v := .pointer (some ⟨g, og + j * 4, none⟩)) rfl rfl (by kernel_rfl) (by kernel_rfl) (by kernel_rfl) (fun _ _ _ h => h) (Or.inl ⟨by rfl, fun w hSw => by obtain ⟨hS0, hS1, hS2, hS3, hS4, hS5, hS6, hS7, hS8⟩ := hSw; go_simp⟩) hHeld ?_
            simp only [List.setIfInBounds_toArray, List.set_cons_zero, List.set_cons_succ]
            refine takeAt (i := 11) (d := 25) (v := .agg #[.int .i64 y.1.seq, .int .i64 y.1.time, .slice y.2.1 y.1.labs.length y.2.2, .string ⟨y.1.line.toArray⟩]) rfl rfl (by kernel_rfl) (by kernel_rfl) (by kernel_rfl) (fun _ _ _ h => h) (Or.inl ⟨by rfl, fun w hSw => by obtain ⟨hS0, hS1, hS2, hS3, hS4, hS5, hS6, hS7, hS8⟩ := hSw; go_simp⟩) hHeld ?_
            simp only [List.setIfInBounds_toArray, List.set_cons_zero, List.set_cons_succ]
            refine wpAnyH_ready (rs := [12]) (by kernel_rfl) (by simp) ?_
            refine AllReadyH.cons (o := { dst := some 26, op := Go.Op.call { callee := Go.Callee.value (Go.Operand.func 10), args := #[Go.Operand.tmp 20, Go.Operand.tmp 25], argTypes := #[27, 27] }, type := 4, pos := "ref.go:112", after := #[{ on := 6, ground := Go.Ground.data }, { on := 11, ground := Go.Ground.data }, { on := 2, ground := Go.Ground.chain }, { on := 2, ground := Go.Ground.guard }], guard := some (2, true) }) rfl (fun K hK => ?_) AllReadyH.nil
            rw [if_pos (by rfl)]
            go_simp
            refine (HBf _).mono ?_
            rintro e w1 ⟨rfl, b1⟩
            refine hK.out _ _ (mkS _ (hk9.1.trans (b1.mono hk9.1.size))) (fun hHeld2 => ?_)
            clear hK K
            try simp only [Act.put, List.setIfInBounds_toArray, List.set_cons_zero, List.set_cons_succ]
            refine takeAt (i := 13) (d := 27) (v := .bool false) rfl rfl (by kernel_rfl) (by kernel_rfl) (by kernel_rfl) (fun _ _ _ h => h) (Or.inl ⟨by rfl, fun w hSw => by obtain ⟨hS0, hS1, hS2, hS3, hS4, hS5, hS6, hS7, hS8⟩ := hSw; go_simp⟩) hHeld2 ?_
            simp only [List.setIfInBounds_toArray, List.set_cons_zero, List.set_cons_succ]
            refine wpAnyH_done (by kernel_rfl) ?_ _
            have hbs := hHeld2.1
            clear hHeld2 hk9 mkS hk1 HBf
            go_wp2_with fail
            have hs1 := fun wx => run_topV (A := (some ⟨g, og, none⟩)) (n := O.length) (c := co) (hi := k) (by omega) wx
            have hs2 := fun wx => run_fromV (A := (some ⟨g, og, none⟩)) (n := O.length) (c := co) (s := k) hk wx
            have r1 := (ho2.below hbs).part 0 k (by omega) hk
            have r2 := (ho2.below hbs).part k O.length hk (Nat.le_refl _)
            rw [Nat.sub_zero, List.drop_zero] at r1
            rw [List.take_of_length_le (by rw [List.length_drop]; exact Nat.le_refl _)] at r2
            generalize sliced (some ⟨g, og, none⟩) 0 k co 4 = v1 at *
            generalize sliced (some ⟨g, og, none⟩) k O.length co 4 = v2 at *
            obtain ⟨hx0, hx1, hx2, hx3⟩ := KX _ hbs
            have hbs3 := Nat.lt_of_lt_of_le hbz hbs.size
            have hbs0 := Nat.le_trans hbw.size hbs.size
            refine wp_region_held_drew (S := fun w' => Below w1.heap.size w1 w') (by kernel_rfl) (Below.refl _ _).drew (fun hHeld => ?_)
            refine takeAt (i := 1) (d := 31) (v := .slice (some ⟨g, og, none⟩) O.length co) rfl rfl (by kernel_rfl) (by kernel_rfl) (by kernel_rfl) (fun _ _ _ h => h) (Or.inl ⟨by rfl, fun w hSw => by go_simp⟩) hHeld ?_
            simp only [List.setIfInBounds_toArray, List.set_cons_zero, List.set_cons_succ]
            refine takeAt (i := 2) (d := 32) (v := .int .i64 (k : Int)) rfl rfl (by kernel_rfl) (by kernel_rfl) (by kernel_rfl) (fun _ _ _ h => h) (Or.inl ⟨by rfl, fun w hSw => by go_simp⟩) hHeld ?_
            simp only [List.setIfInBounds_toArray, List.set_cons_zero, List.set_cons_succ]
            refine takeAt (i := 3) (d := 33) (v := v1) rfl rfl (by kernel_rfl) (by kernel_rfl) (by kernel_rfl) (fun _ _ _ h => h) (Or.inl ⟨by rfl, fun w hSw => by go_simp⟩) hHeld ?_
            simp only [List.setIfInBounds_toArray, List.set_cons_zero, List.set_cons_succ]
            refine takeAt (i := 5) (d := 35) (v := .slice (some ⟨b, off, none⟩) N c) rfl rfl (by kernel_rfl) (by kernel_rfl) (by kernel_rfl) (fun _ _ _ h => h) (Or.inl ⟨by rfl, fun w hSw => by go_simp⟩) hHeld ?_
            simp only [List.setIfInBounds_toArray, List.set_cons_zero, List.set_cons_succ]
            refine takeAt (i := 6) (d := 36) (v := .int .i64 (i : Int)) rfl rfl (by kernel_rfl) (by kernel_rfl) (by kernel_rfl) (fun _ _ _ h => h) (Or.inl ⟨by rfl, fun w hSw => by go_simp⟩) hHeld ?_
            simp only [List.setIfInBounds_toArray, List.set_cons_zero, List.set_cons_succ]
            refine takeAt (i := 7) (d := 37) (v := .pointer (some ⟨b, off + i * 4, none⟩)) rfl rfl (by kernel_rfl) (by kernel_rfl) (by kernel_rfl) (fun _ _ _ h => h) (Or.inl ⟨by rfl, fun w hSw => by go_simp⟩) hHeld ?_
            simp only [List.setIfInBounds_toArray, List.set_cons_zero, List.set_cons_succ]
            refine takeAt (i := 8) (d := 38) (v := .agg #[.int .i64 x.1.seq, .int .i64 x.1.time, .slice x.2.1 x.1.labs.length x.2.2, .string ⟨x.1.line.toArray⟩]) rfl rfl (by kernel_rfl) (by kernel_rfl) (by kernel_rfl) (fun _ _ _ h => h) (Or.inl ⟨by rfl, fun w hSw => by have g0 := (hSw.cell (p := ⟨b, off + i * 4, none⟩) hbs3).trans hx0; have g1 := (hSw.cell (p := ⟨b, off + i * 4 + 1, none⟩) hbs3).trans hx1; have g2 := (hSw.cell (p := ⟨b, off + i * 4 + 2, none⟩) hbs3).trans hx2; have g3 := (hSw.cell (p := ⟨b, off + i * 4 + 3, none⟩) hbs3).trans hx3; go_simp⟩) hHeld ?_
            simp only [List.setIfInBounds_toArray, List.set_cons_zero, List.set_cons_succ]
            refine takeAt (i := 11) (d := 41) (v := .slice (some ⟨g, og, none⟩) O.length co) rfl rfl (by kernel_rfl) (by kernel_rfl) (by kernel_rfl) (fun _ _ _ h => h) (Or.inl ⟨by rfl, fun w hSw => by go_simp⟩) hHeld ?_
            simp only [List.setIfInBounds_toArray, List.set_cons_zero, List.set_cons_succ]
            refine takeAt (i := 12) (d := 42) (v := .int .i64 (k : Int)) rfl rfl (by kernel_rfl) (by kernel_rfl) (by kernel_rfl) (fun _ _ _ h => h) (Or.inl ⟨by rfl, fun w hSw => by go_simp⟩) hHeld ?_
            simp only [List.setIfInBounds_toArray, List.set_cons_zero, List.set_cons_succ]
            refine takeAt (i := 13) (d := 43) (v := v2) rfl rfl (by kernel_rfl) (by kernel_rfl) (by kernel_rfl) (fun _ _ _ h => h) (Or.inl ⟨by rfl, fun w hSw => by go_simp⟩) hHeld ?_
            simp only [List.setIfInBounds_toArray, List.set_cons_zero, List.set_cons_succ]
            refine wpAnyH_ready (rs := [0, 9]) (by kernel_rfl) (by simp) ?_
            refine (AllReadyH.cons (o := { dst := some 30, op := Go.Op.buildSlice 22 0 #[], type := 22, pos := "ref.go:115", after := #[], guard := none }) rfl (fun K hK => ?_) (AllReadyH.cons (o := { dst := some 39, op := Go.Op.buildSlice 22 1 #[(0, Go.Operand.tmp 38)], type := 22, pos := "ref.go:115", after := #[{ on := 8, ground := Go.Ground.data }], guard := none }) rfl (fun K hK => ?_) AllReadyH.nil))
            · rw [if_pos (by rfl)]
              go_simp
              refine hK.out _ _ (hHeld.alloc (hHeld.size) _) (fun hHeld1 => ?_)
              clear hK K
              refine wpAnyH_ready (rs := [4, 9]) (by kernel_rfl) (by simp) ?_
              refine (AllReadyH.cons (o := { dst := some 34, op := Go.Op.call { callee := Go.Callee.builtin Go.Builtin.append, args := #[Go.Operand.tmp 30, Go.Operand.tmp 33], argTypes := #[22, 22] }, type := 22, pos := "ref.go:115", after := #[{ on := 0, ground := Go.Ground.data }, { on := 3, ground := Go.Ground.data }], guard := none }) rfl (fun K hK => ?_) (AllReadyH.cons (o := { dst := some 39, op := Go.Op.buildSlice 22 1 #[(0, Go.Operand.tmp 38)], type := 22, pos := "ref.go:115", after := #[{ on := 8, ground := Go.Ground.data }], guard := none }) rfl (fun K hK => ?_) AllReadyH.nil))
              · refine step_appV rfl (.tmp 30) (.tmp 33) rfl w1.heap.size _ _ [] (O.take k) (by simp [Act.eval]) (OwnV.made w1.drew (Nat.le_refl _)) (by simp [Act.eval]) (r1.below hHeld1) (by first | (simp; done) | (simp; omega)) hHeld1.size ?_
                intro v3 w3 o3 b3 g3 _
                refine hK.out _ _ (hHeld1.trans b3) (fun hHeld2 => ?_)
                clear hK K
                simp only [Act.put, List.setIfInBounds_toArray, List.set_cons_zero, List.set_cons_succ]
                refine wpAnyH_ready (rs := [9]) (by kernel_rfl) (by simp) ?_
                refine (AllReadyH.cons (o := { dst := some 39, op := Go.Op.buildSlice 22 1 #[(0, Go.Operand.tmp 38)], type := 22, pos := "ref.go:115", after := #[{ on := 8, ground := Go.Ground.data }], guard := none }) rfl (fun K hK => ?_) AllReadyH.nil)
                rw [if_pos (by rfl)]
                go_simp
                refine hK.out _ _ (hHeld2.alloc (hHeld2.size) _) (fun hHeld3 => ?_)
                clear hK K
                refine wpAnyH_ready (rs := [10]) (by kernel_rfl) (by simp) ?_
                refine (AllReadyH.cons (o := { dst := some 40, op := Go.Op.call { callee := Go.Callee.builtin Go.Builtin.append, args := #[Go.Operand.tmp 34, Go.Operand.tmp 39], argTypes := #[22, 22] }, type := 22, pos := "ref.go:115", after := #[{ on := 4, ground := Go.Ground.data }, { on := 9, ground := Go.Ground.data }, { on := 4, ground := Go.Ground.chain }], guard := none }) rfl (fun K hK => ?_) AllReadyH.nil)
                refine step_appV rfl (.tmp 34) (.tmp 39) rfl w1.heap.size _ _ _ [x] (by simp [Act.eval]) (o3.alloc _) (by simp [Act.eval]) (RdV.one w3 x _ rfl) (by first | (simp; done) | (simp; omega)) hHeld3.size ?_
                intro v4 w4 o4 b4 g4 _
                refine hK.out _ _ (hHeld3.trans b4) (fun hHeldX => ?_)
                clear hK K
                simp only [Act.put, List.setIfInBounds_toArray, List.set_cons_zero, List.set_cons_succ]
                refine wpAnyH_ready (rs := [14]) (by kernel_rfl) (by simp) ?_
                refine (AllReadyH.cons (o := { dst := some 44, op := Go.Op.call { callee := Go.Callee.builtin Go.Builtin.append, args := #[Go.Operand.tmp 40, Go.Operand.tmp 43], argTypes := #[22, 22] }, type := 22, pos := "ref.go:115", after := #[{ on := 10, ground := Go.Ground.data }, { on := 13, ground := Go.Ground.data }, { on := 10, ground := Go.Ground.chain }], guard := none }) rfl (fun K hK => ?_) AllReadyH.nil)
                refine step_appV rfl (.tmp 40) (.tmp 43) rfl w1.heap.size _ _ _ (O.drop k) (by simp [Act.eval]) o4 (by simp [Act.eval]) (r2.below hHeldX) (by first | (simp; done) | (simp; omega)) hHeldX.size ?_
                intro v5 w5 o5 b5 g5 _
                refine hK.out _ _ (hHeldX.trans b5) (fun hHeldY => ?_)
                clear hK K
                simp only [Act.put, List.setIfInBounds_toArray, List.set_cons_zero, List.set_cons_succ]
                refine takeAt (i := 15) (d := 3) (v := v5) rfl rfl (by kernel_rfl) (by kernel_rfl) (by kernel_rfl) (fun _ _ _ h => h) (Or.inl ⟨by rfl, fun w hSw => by go_simp⟩) hHeldY ?_
                simp only [List.setIfInBounds_toArray, List.set_cons_zero, List.set_cons_succ]
                refine wpAnyH_done (by kernel_rfl) ?_ _
                go_wp2
                go_roundw
                case rel => exact ⟨i + 1, O.take k ++ x :: O.drop k, by go_num, by omega, by have := o5.mono hbs0; simpa using this, FIN.out.1, FIN.out.2.1, FIN.out.2.2, hbw.trans ((hbs.trans (hHeldY.mono hbs.size)).mono hbw.size)⟩
                case measure => first | (simp [intOf]; done) | (simp [intOf]; omega)
              · rw [if_pos (by rfl)]
                go_simp
                refine hK.out _ _ (hHeld1.alloc (hHeld1.size) _) (fun hHeld2 => ?_)
                clear hK K
                refine wpAnyH_ready (rs := [4]) (by kernel_rfl) (by simp) ?_
                refine (AllReadyH.cons (o := { dst := some 34, op := Go.Op.call { callee := Go.Callee.builtin Go.Builtin.append, args := #[Go.Operand.tmp 30, Go.Operand.tmp 33], argTypes := #[22, 22] }, type := 22, pos := "ref.go:115", after := #[{ on := 0, ground := Go.Ground.data }, { on := 3, ground := Go.Ground.data }], guard := none }) rfl (fun K hK => ?_) AllReadyH.nil)
                refine step_appV rfl (.tmp 30) (.tmp 33) rfl w1.heap.size _ _ [] (O.take k) (by simp [Act.eval]) ((OwnV.made w1.drew (Nat.le_refl _)).alloc _) (by simp [Act.eval]) (r1.below hHeld2) (by first | (simp; done) | (simp; omega)) hHeld2.size ?_
                intro v3 w3 o3 b3 g3 _
                refine hK.out _ _ (hHeld2.trans b3) (fun hHeld3 => ?_)
                clear hK K
                simp only [Act.put, List.setIfInBounds_toArray, List.set_cons_zero, List.set_cons_succ]
                refine wpAnyH_ready (rs := [10]) (by kernel_rfl) (by simp) ?_
                refine (AllReadyH.cons (o := { dst := some 40, op := Go.Op.call { callee := Go.Callee.builtin Go.Builtin.append, args := #[Go.Operand.tmp 34, Go.Operand.tmp 39], argTypes := #[22, 22] }, type := 22, pos := "ref.go:115", after := #[{ on := 4, ground := Go.Ground.data }, { on := 9, ground := Go.Ground.data }, { on := 4, ground := Go.Ground.chain }], guard := none }) rfl (fun K hK => ?_) AllReadyH.nil)
                refine step_appV rfl (.tmp 34) (.tmp 39) rfl w1.heap.size _ _ _ [x] (by simp [Act.eval]) o3 (by simp [Act.eval]) (RdV.far g3 (RdV.one (w1.drew.alloc (.cells #[] 27)) x _ rfl) (by simp [Value.ownBlock])) (by first | (simp; done) | (simp; omega)) hHeld3.size ?_
                intro v4 w4 o4 b4 g4 _
                refine hK.out _ _ (hHeld3.trans b4) (fun hHeldX => ?_)
                clear hK K
                simp only [Act.put, List.setIfInBounds_toArray, List.set_cons_zero, List.set_cons_succ]
                refine wpAnyH_ready (rs := [14]) (by kernel_rfl) (by simp) ?_
                refine (AllReadyH.cons (o := { dst := some 44, op := Go.Op.call { callee := Go.Callee.builtin Go.Builtin.append, args := #[Go.Operand.tmp 40, Go.Operand.tmp 43], argTypes := #[22, 22] }, type := 22, pos := "ref.go:115", after := #[{ on := 10, ground := Go.Ground.data }, { on := 13, ground := Go.Ground.data }, { on := 10, ground := Go.Ground.chain }], guard := none }) rfl (fun K hK => ?_) AllReadyH.nil)
                refine step_appV rfl (.tmp 40) (.tmp 43) rfl w1.heap.size _ _ _ (O.drop k) (by simp [Act.eval]) o4 (by simp [Act.eval]) (r2.below hHeldX) (by first | (simp; done) | (simp; omega)) hHeldX.size ?_
                intro v5 w5 o5 b5 g5 _
                refine hK.out _ _ (hHeldX.trans b5) (fun hHeldY => ?_)
                clear hK K
                simp only [Act.put, List.setIfInBounds_toArray, List.set_cons_zero, List.set_cons_succ]
                refine takeAt (i := 15) (d := 3) (v := v5) rfl rfl (by kernel_rfl) (by kernel_rfl) (by kernel_rfl) (fun _ _ _ h => h) (Or.inl ⟨by rfl, fun w hSw => by go_simp⟩) hHeldY ?_
                simp only [List.setIfInBounds_toArray, List.set_cons_zero, List.set_cons_succ]
                refine wpAnyH_done (by kernel_rfl) ?_ _
                go_wp2
                go_roundw
                case rel => exact ⟨i + 1, O.take k ++ x :: O.drop k, by go_num, by omega, by have := o5.mono hbs0; simpa using this, FIN.out.1, FIN.out.2.1, FIN.out.2.2, hbw.trans ((hbs.trans (hHeldY.mono hbs.size)).mono hbw.size)⟩
                case measure => first | (simp [intOf]; done) | (simp [intOf]; omega)
            · rw [if_pos (by rfl)]
              go_simp
              refine hK.out _ _ (hHeld.alloc (hHeld.size) _) (fun hHeld1 => ?_)
              clear hK K
              refine wpAnyH_ready (rs := [0]) (by kernel_rfl) (by simp) ?_
              refine (AllReadyH.cons (o := { dst := some 30, op := Go.Op.buildSlice 22 0 #[], type := 22, pos := "ref.go:115", after := #[], guard := none }) rfl (fun K hK => ?_) AllReadyH.nil)
              rw [if_pos (by rfl)]
              go_simp
              refine hK.out _ _ (hHeld1.alloc (hHeld1.size) _) (fun hHeld2 => ?_)
              clear hK K
              refine wpAnyH_ready (rs := [4]) (by kernel_rfl) (by simp) ?_
              refine (AllReadyH.cons (o := { dst := some 34, op := Go.Op.call { callee := Go.Callee.builtin Go.Builtin.append, args := #[Go.Operand.tmp 30, Go.Operand.tmp 33], argTypes := #[22, 22] }, type := 22, pos := "ref.go:115", after := #[{ on := 0, ground := Go.Ground.data }, { on := 3, ground := Go.Ground.data }], guard := none }) rfl (fun K hK => ?_) AllReadyH.nil)
              refine step_appV rfl (.tmp 30) (.tmp 33) rfl w1.heap.size _ _ [] (O.take k) (by simp [Act.eval]) (OwnV.made _ hHeld1.size) (by simp [Act.eval]) (r1.below hHeld2) (by first | (simp; done) | (simp; omega)) hHeld2.size ?_
              intro v3 w3 o3 b3 g3 _
              refine hK.out _ _ (hHeld2.trans b3) (fun hHeld3 => ?_)
              clear hK K
              simp only [Act.put, List.setIfInBounds_toArray, List.set_cons_zero, List.set_cons_succ]
              refine wpAnyH_ready (rs := [10]) (by kernel_rfl) (by simp) ?_
              refine (AllReadyH.cons (o := { dst := some 40, op := Go.Op.call { callee := Go.Callee.builtin Go.Builtin.append, args := #[Go.Operand.tmp 34, Go.Operand.tmp 39], argTypes := #[22, 22] }, type := 22, pos := "ref.go:115", after := #[{ on := 4, ground := Go.Ground.data }, { on := 9, ground := Go.Ground.data }, { on := 4, ground := Go.Ground.chain }], guard := none }) rfl (fun K hK => ?_) AllReadyH.nil)
              refine step_appV rfl (.tmp 34) (.tmp 39) rfl w1.heap.size _ _ _ [x] (by simp [Act.eval]) o3 (by simp [Act.eval]) (RdV.far g3 ((RdV.one w1.drew x _ rfl).below ((Below.refl _ _).alloc (Nat.le_refl _) _)) (by simp [Value.ownBlock])) (by first | (simp; done) | (simp; omega)) hHeld3.size ?_
              intro v4 w4 o4 b4 g4 _
              refine hK.out _ _ (hHeld3.trans b4) (fun hHeldX => ?_)
              clear hK K
              simp only [Act.put, List.setIfInBounds_toArray, List.set_cons_zero, List.set_cons_succ]
              refine wpAnyH_ready (rs := [14]) (by kernel_rfl) (by simp) ?_
              refine (AllReadyH.cons (o := { dst := some 44, op := Go.Op.call { callee := Go.Callee.builtin Go.Builtin.append, args := #[Go.Operand.tmp 40, Go.Operand.tmp 43], argTypes := #[22, 22] }, type := 22, pos := "ref.go:115", after := #[{ on := 10, ground := Go.Ground.data }, { on := 13, ground := Go.Ground.data }, { on := 10, ground := Go.Ground.chain }], guard := none }) rfl (fun K hK => ?_) AllReadyH.nil)
              refine step_appV rfl (.tmp 40) (.tmp 43) rfl w1.heap.size _ _ _ (O.drop k) (by simp [Act.eval]) o4 (by simp [Act.eval]) (r2.below hHeldX) (by first | (simp; done) | (simp; omega)) hHeldX.size ?_
              intro v5 w5 o5 b5 g5 _
              refine hK.out _ _ (hHeldX.trans b5) (fun hHeldY => ?_)
              clear hK K
              simp only [Act.put, List.setIfInBounds_toArray, List.set_cons_zero, List.set_cons_succ]
              refine takeAt (i := 15) (d := 3) (v := v5) rfl rfl (by kernel_rfl) (by kernel_rfl) (by kernel_rfl) (fun _ _ _ h => h) (Or.inl ⟨by rfl, fun w hSw => by go_simp⟩) hHeldY ?_
              simp only [List.setIfInBounds_toArray, List.set_cons_zero, List.set_cons_succ]
              refine wpAnyH_done (by kernel_rfl) ?_ _
              go_wp2
              go_roundw
              case rel => exact ⟨i + 1, O.take k ++ x :: O.drop k, by go_num, by omega, by have := o5.mono hbs0; simpa using this, FIN.out.1, FIN.out.2.1, FIN.out.2.2, hbw.trans ((hbs.trans (hHeldY.mono hbs.size)).mono hbw.size)⟩
              case measure => first | (simp [intOf]; done) | (simp [intOf]; omega)
    · have hge : ¬ (i : Int) < (N : Int) := by omega
      obtain rfl : i = N := by omega
      have HF : Hid (∀ v' w', Below w.heap.size w w' → RdV w' v' O → RdE w' v' (O.map (·.1)) ∧ StableOf ltT l (O.map (·.1)) ∧ (O.map (·.1)).length = l.length) := hid (fun v' w' hb h => by
        have h1 := HS.out
        rw [List.take_of_length_le (by have := HNX.out; omega)] at h1
        have h2 := stable_map h1
        rw [HX.out] at h2
        exact ⟨h.rdE (fun p hp => (HL.out p ((h1.mem ltE_ord).1 hp)).below hb), h2, by rw [List.length_map]; exact HOL.out.trans HLN.out⟩)
      clear hcell HS HOL
      go_wp2_with fail
      go_ret
      obtain ⟨k1, k2, k3⟩ := HF.out _ _ hbw ho.rd
      exact ⟨_, _, rfl, k1, k2, k3, hbw⟩
end Go.Proofs.YtcdfjkhjdiojbaaDoor
