/-
  The reference's table of lengths: whether a part fits. Conditions: sizes.
-/
import Derived.Test.YtlhodanpfpfodaaGreatDoorMGlb2
import Derived.Deep.RegionLaw
import Derived.Laws.MakeOwn
import Derived.Deep.RegionHeld3
namespace Go.Proofs.YtlhodanpfpfodaaGreatDoor
open Go.RowKit Go.Icz
/-- Take number i first: its temporary is told. -/
theorem takeAt {P : Program} {ops : Array Oper} {Q : Exit → Act → World → Prop} {md : Region.Mode} {S : World → Prop} {i : Nat} {d : Tmp} {oi : Oper} {v : Value} {fuel : Nat} {listed : Array Bool} {a : Act} {w : World} (hi : ops[i]? = some oi) (hd : oi.dst = some d)
    (hs : Region.noSelect ops = true) (hf : Region.free md ops listed i = true) (hr : (Region.ready md ops listed).contains i = true)
    (hQ : ∀ c a w, Q (.panic c) (a.put oi.dst v) w → Q (.panic c) a w) (hy : YieldsIf P ops S oi v a) (hS : S w)
    (h : wpAnyH P md ops Q S fuel (listed.setIfInBounds i true) { tmps := a.tmps.setIfInBounds d v, defers := a.defers } w) : wpAnyH P md ops Q S (fuel + 1) listed a w := by
  refine wpAnyH_take hi hs hf hr hQ hy hS ?_
  rw [hd]
  exact h

def boolA (l : List Bool) : Array Value := (l.map Value.bool).toArray
def atL (p : List Gl.Sg) (s : List Nat) (i : Nat) : List Bool := (List.range (s.length + 1)).map fun k => Gl.fit (p.take i) (s.take k)
def nxL (p : List Gl.Sg) (s : List Nat) (i k : Nat) : List Bool := (List.range (s.length + 1)).map fun j => decide (j < k) && Gl.fit (p.take (i + 1)) (s.take j)
theorem atL_zero (p : List Gl.Sg) (s : List Nat) : boolA (atL p s 0) = (Array.replicate (s.length + 1) (Value.bool false)).setIfInBounds 0 (.bool true) := by
  apply Array.ext'
  unfold boolA atL
  apply List.ext_getElem?
  intro k
  simp only [Array.toList_setIfInBounds, Array.toList_replicate, List.getElem?_map, List.getElem?_set, List.getElem?_replicate, List.length_replicate]
  by_cases hk : k < s.length + 1
  · rw [List.getElem?_range hk]
    simp only [Option.map_some, List.take_zero]
    rw [Gl.dp_base s k (by omega)]
    by_cases h0 : k = 0
    · subst h0; simp
    · rw [decide_eq_false h0, if_neg (by omega), if_pos hk]
  · rw [List.getElem?_eq_none (by simp; omega), if_neg (by omega), if_neg hk]
    rfl
theorem nxL_zero (p : List Gl.Sg) (s : List Nat) (i : Nat) : boolA (nxL p s i 0) = Array.replicate (s.length + 1) (Value.bool false) := by
  apply Array.ext'
  unfold boolA nxL
  apply List.ext_getElem?
  intro k
  simp only [Array.toList_replicate, List.getElem?_map, List.getElem?_replicate]
  by_cases hk : k < s.length + 1
  · rw [List.getElem?_range hk, if_pos hk]
    simp
  · rw [List.getElem?_eq_none (by simp; omega), if_neg hk]
    rfl
theorem nxL_done (p : List Gl.Sg) (s : List Nat) (i : Nat) : nxL p s i (s.length + 1) = atL p s (i + 1) := by
  unfold nxL atL
  apply List.map_congr_left
  intro j hj
  rw [decide_eq_true (List.mem_range.1 hj), Bool.true_and]
theorem nxL_set (p : List Gl.Sg) (s : List Nat) (i k : Nat) (b : Bool) (hk : k ≤ s.length) (hb : Gl.fit (p.take (i + 1)) (s.take k) = b) : (boolA (nxL p s i k)).setIfInBounds k (.bool b) = boolA (nxL p s i (k + 1)) := by
  apply Array.ext'
  unfold boolA nxL
  apply List.ext_getElem?
  intro j
  simp only [Array.toList_setIfInBounds, List.getElem?_map, List.getElem?_set, List.length_map, List.length_range]
  by_cases hj : j < s.length + 1
  · rw [List.getElem?_range hj]
    simp only [Option.map_some]
    by_cases e : k = j
    · subst e
      rw [if_pos rfl, if_pos hj, hb, decide_eq_true (by omega)]
      simp
    · rw [if_neg e]
      by_cases h2 : j < k
      · rw [decide_eq_true h2, decide_eq_true (by omega)]
      · rw [decide_eq_false h2, decide_eq_false (by omega)]
  · rw [List.getElem?_eq_none (by simp; omega), if_neg (by omega)]
    simp
theorem nxL_skip (p : List Gl.Sg) (s : List Nat) (i k : Nat) (hk : k ≤ s.length) (hb : Gl.fit (p.take (i + 1)) (s.take k) = false) : nxL p s i (k + 1) = nxL p s i k := by
  unfold nxL
  apply List.map_congr_left
  intro j hj
  by_cases e : j = k
  · subst e
    rw [hb]
    simp
  · by_cases h2 : j < k
    · rw [decide_eq_true h2, decide_eq_true (by omega)]
    · rw [decide_eq_false h2, decide_eq_false (by omega)]
theorem boolA_get {l : List Bool} {k : Nat} (hk : k < l.length) : (boolA l)[k]? = some (.bool l[k]) := by
  unfold boolA
  simp [hk]
theorem atL_at (p : List Gl.Sg) (s : List Nat) (i k : Nat) (hk : k ≤ s.length) : (boolA (atL p s i))[k]? = some (.bool (Gl.fit (p.take i) (s.take k))) := by
  rw [boolA_get (by unfold atL; simp; omega)]
  unfold atL
  simp
theorem nxL_at (p : List Gl.Sg) (s : List Nat) (i k j : Nat) (hj : j ≤ s.length) (hjk : j < k) : (boolA (nxL p s i k))[j]? = some (.bool (Gl.fit (p.take (i + 1)) (s.take j))) := by
  rw [boolA_get (by unfold nxL; simp; omega)]
  unfold nxL
  simp [hjk]
theorem infoB : (Tryz.prog.info? 4).map (fun i => (i.zero, i.size, i.bytes)) = some (some (.bool false), 1, 1) := by kernel_rfl
theorem made_bool (n : Nat) : madeCells (Value.bool false).cells n = Array.replicate n (.bool false) := by
  apply Array.ext
  · simp [size_madeCells]
  · intro i h1 h2
    simp [madeCells, Value.cells]
    rw [Nat.mod_one]
    rfl
theorem mkB (n : Nat) (hn : n ≤ 1048576) (w : World) : (Instr.makeSlice 136 (.int .i64 ((n : Int) + 1)) (.int .i64 ((n : Int) + 1))).run Tryz.prog w = .ok (.slice (some ⟨w.heap.size, 0, none⟩) (n + 1) (n + 1)) (w.alloc (.cells (Array.replicate (n + 1) (.bool false)) 4)) := by
  obtain ⟨i0, hi, hz0, hz1, hz2⟩ := info_parts infoB
  have := run_make (P := Tryz.prog) w 136 4 i0 (.bool false) Tryz.underlying136 hi hz0 .i64 .i64 ((n : Int) + 1) ((n : Int) + 1) (by omega) (Int.le_refl _) (by rw [hz2]; omega) (by omega)
  rw [this]
  have e : ((n : Int) + 1).toNat = n + 1 := by omega
  rw [e, hz1, Nat.mul_one, made_bool]
set_option maxHeartbeats 8000000 in
set_option maxRecDepth 100000 in
theorem fits6_is (v0 v1 : Value) (p : List Gl.Sg) (s : List Nat) (w : World) (h0 : KT.Rd w v0 (p.map .sg)) (h1 : KI.Rd w v1 s) (hp : p.length ≤ 1048576) (hs : s.length ≤ 1048576) :
    Calls Tryz.prog 53 #[v0, v1] w fun e w' => e = .returned (.bool (Gl.fit p s)) ∧ Below w.heap.size w w' := by
  obtain ⟨A, c, rfl, hc⟩ := h0.form
  obtain ⟨A1, c1, rfl, hc1⟩ := h1.form
  rw [List.length_map] at hc
  rw [List.length_map] at h0
  rw [List.length_map]
  have hmk := fun w1 => mkB s.length hs w1
  have hr0 : (Array.replicate (s.length + 1) (Value.bool false))[0]? = some (.bool false) := by simp
  go_enter Tryz.func53, Tryz.ntmps53
  go_wp2_with fail
  have row0 : (w.alloc (.cells ((Array.replicate (s.length + 1) (Value.bool false)).setIfInBounds 0 (.bool true)) 4)).heap[w.heap.size]? = some (.cells (boolA (atL p s 0)) 4 (0, 0)) := by
    rw [atL_zero]
    exact heap_alloc_new w _
  have bw0 : Below w.heap.size w (w.alloc (.cells ((Array.replicate (s.length + 1) (Value.bool false)).setIfInBounds 0 (.bool true)) 4)) := (Below.refl _ w).alloc (Nat.le_refl _) _
  go_loopw [5, 6] (fun av iv wr => ∃ (i g : Nat), iv = .int .i64 i ∧ av = .slice (some ⟨g, 0, none⟩) (s.length + 1) (s.length + 1) ∧ i ≤ p.length ∧ w.heap.size ≤ g ∧ wr.heap[g]? = some (.cells (boolA (atL p s i)) 4 (0, 0)) ∧ Below w.heap.size w wr) (fun _ iv _ => p.length - (intOf iv).toNat)
  case atStart => exact ⟨0, w.heap.size, rfl, rfl, by omega, Nat.le_refl _, row0, bw0⟩
  case round =>
    clear row0 bw0
    obtain ⟨i, g, rfl, rfl, hi, hg, rowg, hbw⟩ := hrel
    have hwz := hbw.size
    have hgz := (Array.getElem?_eq_some_iff.1 rowg).1
    by_cases hlt : i < p.length
    · have hlt2 : i < (p.map Gl.Tok.sg).length := by rw [List.length_map]; exact hlt
      have h0' : KT.Rd w (.slice A (p.map Gl.Tok.sg).length c) (p.map .sg) := by rw [List.length_map]; exact h0
      obtain ⟨b, off, rfl, hb, hcell⟩ := h0'.at hlt2
      have hel : (p.map Gl.Tok.sg)[i] = .sg p[i] := by simp
      rw [hel] at hcell
      have htk : p.take (i + 1) = p.take i ++ [p[i]] := by rw [List.take_add_one, List.getElem?_eq_getElem hlt]; rfl
      clear hel h0' hlt2
      go_wp2_with fail
      have rowx : (wr.alloc (.cells (Array.replicate (s.length + 1) (Value.bool false)) 4)).heap[wr.heap.size]? = some (.cells (boolA (nxL p s i 0)) 4 (0, 0)) := by
        rw [nxL_zero]
        exact heap_alloc_new wr _
      have rowga := (heap_alloc_old wr (.cells (Array.replicate (s.length + 1) (Value.bool false)) 4) hgz).trans rowg
      have hbw2 := hbw.alloc hbw.size (.cells (Array.replicate (s.length + 1) (Value.bool false)) 4)
      clear rowg hbw
      generalize hg2 : wr.heap.size = g2 at *
      clear hg2
      generalize wr = wo at *
      go_loopw [8] (fun kv wr => ∃ (k : Nat), kv = .int .i64 k ∧ k ≤ s.length + 1 ∧ wr.heap[g]? = some (.cells (boolA (atL p s i)) 4 (0, 0)) ∧ wr.heap[g2]? = some (.cells (boolA (nxL p s i k)) 4 (0, 0)) ∧ Below w.heap.size w wr) (fun kv _ => (s.length + 1) - (intOf kv).toNat)
      case atStart => exact ⟨0, rfl, by omega, rowga, rowx, hbw2⟩
      case round =>
        clear rowx rowga hbw2
        obtain ⟨k, rfl, hk, rowg, rowx, hbw⟩ := hrel
        have hgne : g ≠ g2 := by omega
        by_cases hkn : k ≤ s.length
        · have d0 := fun u h => (hbw.cell (p := ⟨b, off + (i * KT.z + 0), none⟩) hb).trans (hcell 0 u (by decide) h)
          have d1 := fun u h => (hbw.cell (p := ⟨b, off + (i * KT.z + 1), none⟩) hb).trans (hcell 1 u (by decide) h)
          have e0 : off + (i * KT.z + 0) = off + i * 2 := by show off + (i * 2 + 0) = _; omega
          have e1 : off + (i * KT.z + 1) = off + i * 2 + 1 := by show off + (i * 2 + 1) = _; omega
          rw [e0] at d0
          rw [e1] at d1
          clear e0 e1 hcell
          have hst : ∀ bv, Gl.fit (p.take (i + 1)) (s.take k) = bv → (wr.setCell ⟨g2, k, none⟩ (.bool bv)).heap[g2]? = some (.cells (boolA (nxL p s i (k + 1))) 4 (0, 0)) ∧ (wr.setCell ⟨g2, k, none⟩ (.bool bv)).heap[g]? = some (.cells (boolA (atL p s i)) 4 (0, 0)) := fun bv hbv => by
            refine ⟨?_, (Tch.set (· = g2) wr ⟨g2, k, none⟩ _ rfl).row rowg (by omega)⟩
            have := row_set (i := k) rowx (.bool bv)
            rw [nxL_set p s i k bv hkn hbv] at this
            exact this
          have fz : wr.frozen? ⟨g2, k, none⟩ = false := held_frozen rowx
          have xk : wr.cell? ⟨g2, k, none⟩ = some (.bool ((nxL p s i k)[k]'(by unfold nxL; simp; omega))) := held_cell rowx (boolA_get _)
          have ak : wr.cell? ⟨g, k, none⟩ = some (.bool (Gl.fit (p.take i) (s.take k))) := held_cell rowg (atL_at p s i k hkn)
          have hks : (k : Int) < (s.length : Int) + 1 := by omega
          cases hpi : p[i] with
          | any =>
            rw [hpi] at d0 htk
            have c0 := d0 _ rfl
            have HF : Hid (Gl.fit (p.take (i + 1)) (s.take k) = (Gl.fit (p.take i) (s.take k) || (decide (0 < k) && Gl.fit (p.take (i + 1)) (s.take (k - 1))))) := hid (by rw [htk, Gl.dp_any _ _ _ hkn])
            clear d0 d1
            cases hx : Gl.fit (p.take i) (s.take k) with
            | true =>
              rw [hx] at ak HF
              obtain ⟨s1, s2⟩ := hst true (by rw [HF.out]; rfl)
              clear hst HF hx rowg rowx htk hpi
              go_wp2_with fail
              go_roundw
              case rel => exact ⟨k + 1, by go_num, by omega, s2, s1, hbw.setCell (by show _ ≤ g2; omega) _⟩
              case measure => simp [intOf]; omega
            | false =>
              rw [hx] at ak HF
              rcases Nat.eq_zero_or_pos k with hk00 | hkp
              · have hk0 : ¬ (0 : Int) < (k : Int) := by omega
                obtain ⟨s1, s2⟩ := hst false (by rw [HF.out, hk00]; rfl)
                clear hst HF hx rowg rowx htk hpi hk00
                go_wp2_with fail
                go_roundw
                case rel => exact ⟨k + 1, by go_num, by omega, s2, s1, hbw.setCell (by show _ ≤ g2; omega) _⟩
                case measure => simp [intOf]; omega
              · have hy := nxL_at p s i k (k - 1) (by omega) (by omega)
                obtain ⟨j, hj⟩ : ∃ j, j = k - 1 := ⟨_, rfl⟩
                have zi : IntKind.i64.wrap ((k : Int) - 1) = (j : Int) := by rw [IntKind.wrap_i64]; omega
                have zi2 : (k : Int) - 1 = (j : Int) := by omega
                have zi3 : IntKind.i64.wrap (j : Int) = (j : Int) := by rw [IntKind.wrap_i64]; omega
                have hk0 : (0 : Int) < (k : Int) := by omega
                have hjn : (j : Int) < (s.length : Int) + 1 := by omega
                rw [← hj] at hy HF
                have xj : wr.cell? ⟨g2, j, none⟩ = some (.bool (Gl.fit (p.take (i + 1)) (s.take j))) := held_cell rowx hy
                have HG : Gl.fit (p.take (i + 1)) (s.take k) = Gl.fit (p.take (i + 1)) (s.take j) := by rw [HF.out, decide_eq_true hkp]; rfl
                obtain ⟨s1, s2⟩ := hst _ HG
                clear hst HF hx rowg rowx htk hpi HG hy hj
                generalize Gl.fit (p.take (i + 1)) (s.take j) = y at *
                go_wp2_with fail
                go_roundw
                case rel => exact ⟨k + 1, by go_num, by omega, s2, s1, hbw.setCell (by show _ ≤ g2; omega) _⟩
                case measure => simp [intOf]; omega
          | one =>
            rw [hpi] at d0 d1 htk
            have c0 := d0 _ rfl
            have c1' := d1 _ rfl
            clear d0 d1
            rcases Nat.eq_zero_or_pos k with hk00 | hkp
            · have hk0 : ¬ (0 : Int) < (k : Int) := by omega
              have HF : Hid (Gl.fit (p.take (i + 1)) (s.take k) = false) := hid (by rw [hk00, htk]; exact Gl.dp_zero (by simp) _ _)
              have hk : wr.cell? ⟨b, off + i * 2, none⟩ = some (.int .i64 2) := c0
              have HK0 := hid hk00
              clear hst hpi htk hk00
              go_wp2_with fail
              refine wp_region_held_drew (S := fun w' => w'.cell? ⟨b, off + i * 2, none⟩ = some (.int .i64 2)) (by kernel_rfl) hk (fun hHeld => ?_)
              refine takeAt (i := 0) (d := 57) (v := .int .i64 (k : Int)) rfl rfl (by kernel_rfl) (by kernel_rfl) (by kernel_rfl) (fun _ _ _ h => h) (Or.inl ⟨by rfl, fun w hSw => by go_simp⟩) hHeld ?_
              simp only [List.setIfInBounds_toArray, List.set_cons_zero, List.set_cons_succ]
              refine takeAt (i := 1) (d := 58) (v := .bool false) rfl rfl (by kernel_rfl) (by kernel_rfl) (by kernel_rfl) (fun _ _ _ h => h) (Or.inl ⟨by rfl, fun w hSw => by go_simp; first | done | exact HK0.out | (simp; exact HK0.out)⟩) hHeld ?_
              simp only [List.setIfInBounds_toArray, List.set_cons_zero, List.set_cons_succ]
              refine takeAt (i := 2) (d := 59) (v := .bool false) rfl rfl (by kernel_rfl) (by kernel_rfl) (by kernel_rfl) (fun _ _ _ h => h) (Or.inl ⟨by rfl, fun w hSw => by go_simp⟩) hHeld ?_
              simp only [List.setIfInBounds_toArray, List.set_cons_zero, List.set_cons_succ]
              refine takeAt (i := 3) (d := 60) (v := undef) rfl rfl (by kernel_rfl) (by kernel_rfl) (by kernel_rfl) (fun _ _ _ h => h) (Or.inr ⟨by rfl, rfl⟩) hHeld ?_
              simp only [List.setIfInBounds_toArray, List.set_cons_zero, List.set_cons_succ]
              refine takeAt (i := 4) (d := 61) (v := undef) rfl rfl (by kernel_rfl) (by kernel_rfl) (by kernel_rfl) (fun _ _ _ h => h) (Or.inr ⟨by rfl, rfl⟩) hHeld ?_
              simp only [List.setIfInBounds_toArray, List.set_cons_zero, List.set_cons_succ]
              refine takeAt (i := 5) (d := 62) (v := undef) rfl rfl (by kernel_rfl) (by kernel_rfl) (by kernel_rfl) (fun _ _ _ h => h) (Or.inr ⟨by rfl, rfl⟩) hHeld ?_
              simp only [List.setIfInBounds_toArray, List.set_cons_zero, List.set_cons_succ]
              refine takeAt (i := 6) (d := 63) (v := undef) rfl rfl (by kernel_rfl) (by kernel_rfl) (by kernel_rfl) (fun _ _ _ h => h) (Or.inr ⟨by rfl, rfl⟩) hHeld ?_
              simp only [List.setIfInBounds_toArray, List.set_cons_zero, List.set_cons_succ]
              refine takeAt (i := 7) (d := 64) (v := undef) rfl rfl (by kernel_rfl) (by kernel_rfl) (by kernel_rfl) (fun _ _ _ h => h) (Or.inr ⟨by rfl, rfl⟩) hHeld ?_
              simp only [List.setIfInBounds_toArray, List.set_cons_zero, List.set_cons_succ]
              refine takeAt (i := 8) (d := 65) (v := undef) rfl rfl (by kernel_rfl) (by kernel_rfl) (by kernel_rfl) (fun _ _ _ h => h) (Or.inr ⟨by rfl, rfl⟩) hHeld ?_
              simp only [List.setIfInBounds_toArray, List.set_cons_zero, List.set_cons_succ]
              refine takeAt (i := 9) (d := 66) (v := undef) rfl rfl (by kernel_rfl) (by kernel_rfl) (by kernel_rfl) (fun _ _ _ h => h) (Or.inr ⟨by rfl, rfl⟩) hHeld ?_
              simp only [List.setIfInBounds_toArray, List.set_cons_zero, List.set_cons_succ]
              refine takeAt (i := 10) (d := 67) (v := undef) rfl rfl (by kernel_rfl) (by kernel_rfl) (by kernel_rfl) (fun _ _ _ h => h) (Or.inr ⟨by rfl, rfl⟩) hHeld ?_
              simp only [List.setIfInBounds_toArray, List.set_cons_zero, List.set_cons_succ]
              refine takeAt (i := 11) (d := 68) (v := undef) rfl rfl (by kernel_rfl) (by kernel_rfl) (by kernel_rfl) (fun _ _ _ h => h) (Or.inr ⟨by rfl, rfl⟩) hHeld ?_
              simp only [List.setIfInBounds_toArray, List.set_cons_zero, List.set_cons_succ]
              refine takeAt (i := 12) (d := 69) (v := undef) rfl rfl (by kernel_rfl) (by kernel_rfl) (by kernel_rfl) (fun _ _ _ h => h) (Or.inr ⟨by rfl, rfl⟩) hHeld ?_
              simp only [List.setIfInBounds_toArray, List.set_cons_zero, List.set_cons_succ]
              refine takeAt (i := 13) (d := 70) (v := undef) rfl rfl (by kernel_rfl) (by kernel_rfl) (by kernel_rfl) (fun _ _ _ h => h) (Or.inr ⟨by rfl, rfl⟩) hHeld ?_
              simp only [List.setIfInBounds_toArray, List.set_cons_zero, List.set_cons_succ]
              refine takeAt (i := 14) (d := 71) (v := undef) rfl rfl (by kernel_rfl) (by kernel_rfl) (by kernel_rfl) (fun _ _ _ h => h) (Or.inr ⟨by rfl, rfl⟩) hHeld ?_
              simp only [List.setIfInBounds_toArray, List.set_cons_zero, List.set_cons_succ]
              refine takeAt (i := 15) (d := 72) (v := undef) rfl rfl (by kernel_rfl) (by kernel_rfl) (by kernel_rfl) (fun _ _ _ h => h) (Or.inr ⟨by rfl, rfl⟩) hHeld ?_
              simp only [List.setIfInBounds_toArray, List.set_cons_zero, List.set_cons_succ]
              refine takeAt (i := 16) (d := 73) (v := undef) rfl rfl (by kernel_rfl) (by kernel_rfl) (by kernel_rfl) (fun _ _ _ h => h) (Or.inr ⟨by rfl, rfl⟩) hHeld ?_
              simp only [List.setIfInBounds_toArray, List.set_cons_zero, List.set_cons_succ]
              refine takeAt (i := 17) (d := 74) (v := undef) rfl rfl (by kernel_rfl) (by kernel_rfl) (by kernel_rfl) (fun _ _ _ h => h) (Or.inr ⟨by rfl, rfl⟩) hHeld ?_
              simp only [List.setIfInBounds_toArray, List.set_cons_zero, List.set_cons_succ]
              refine takeAt (i := 18) (d := 75) (v := undef) rfl rfl (by kernel_rfl) (by kernel_rfl) (by kernel_rfl) (fun _ _ _ h => h) (Or.inr ⟨by rfl, rfl⟩) hHeld ?_
              simp only [List.setIfInBounds_toArray, List.set_cons_zero, List.set_cons_succ]
              refine takeAt (i := 19) (d := 76) (v := undef) rfl rfl (by kernel_rfl) (by kernel_rfl) (by kernel_rfl) (fun _ _ _ h => h) (Or.inr ⟨by rfl, rfl⟩) hHeld ?_
              simp only [List.setIfInBounds_toArray, List.set_cons_zero, List.set_cons_succ]
              refine takeAt (i := 20) (d := 77) (v := undef) rfl rfl (by kernel_rfl) (by kernel_rfl) (by kernel_rfl) (fun _ _ _ h => h) (Or.inr ⟨by rfl, rfl⟩) hHeld ?_
              simp only [List.setIfInBounds_toArray, List.set_cons_zero, List.set_cons_succ]
              refine takeAt (i := 21) (d := 78) (v := undef) rfl rfl (by kernel_rfl) (by kernel_rfl) (by kernel_rfl) (fun _ _ _ h => h) (Or.inr ⟨by rfl, rfl⟩) hHeld ?_
              simp only [List.setIfInBounds_toArray, List.set_cons_zero, List.set_cons_succ]
              refine takeAt (i := 22) (d := 79) (v := .bool false) rfl rfl (by kernel_rfl) (by kernel_rfl) (by kernel_rfl) (fun _ _ _ h => h) (Or.inl ⟨by rfl, fun w hSw => by go_simp⟩) hHeld ?_
              simp only [List.setIfInBounds_toArray, List.set_cons_zero, List.set_cons_succ]
              refine takeAt (i := 23) (d := 56) (v := .bool false) rfl rfl (by kernel_rfl) (by kernel_rfl) (by kernel_rfl) (fun _ _ _ h => h) (Or.inl ⟨by rfl, fun w hSw => by go_simp⟩) hHeld ?_
              simp only [List.setIfInBounds_toArray, List.set_cons_zero, List.set_cons_succ]
              refine wpAnyH_done (by kernel_rfl) ?_ _
              go_wp2_with fail
              go_roundw
              case rel => exact ⟨k + 1, by go_num, by omega, rowg, by rw [nxL_skip p s i k hkn HF.out]; exact rowx, hbw.drew⟩
              case measure => simp [intOf]; omega
            · have hjs : k - 1 < s.length := by omega
              have HF0 : Gl.fit (p.take (i + 1)) (s.take (k - 1 + 1)) = (Gl.Sg.hits (.one) s[k - 1] && Gl.fit (p.take i) (s.take (k - 1))) := by rw [htk]; exact Gl.dp_sign (by simp) _ _ _ hjs
              rw [show k - 1 + 1 = k by omega] at HF0
              have ha := atL_at p s i (k - 1) (by omega)
              obtain ⟨b1, off1, rfl, hb1, cj⟩ := KI_at h1 hjs
              rw [← hbw.cell (p := ⟨b1, off1 + (k - 1), none⟩) hb1] at cj
              obtain ⟨j, hj⟩ : ∃ j, j = k - 1 := ⟨_, rfl⟩
              have zi : IntKind.i64.wrap ((k : Int) - 1) = (j : Int) := by rw [IntKind.wrap_i64]; omega
              have zi2 : (k : Int) - 1 = (j : Int) := by omega
              have zi3 : IntKind.i64.wrap (j : Int) = (j : Int) := by rw [IntKind.wrap_i64]; omega
              have hk0 : (0 : Int) < (k : Int) := by omega
              have hjn : (j : Int) < (s.length : Int) + 1 := by omega
              have hjs2 : (j : Int) < (s.length : Int) := by omega
              generalize s[k - 1] = ch at *
              rw [← hj] at ha cj HF0
              have aj : wr.cell? ⟨g, j, none⟩ = some (.bool (Gl.fit (p.take i) (s.take j))) := held_cell rowg ha
              clear htk hpi ha hj hjs h1
              obtain ⟨s1, s2⟩ := hst (Gl.fit (p.take i) (s.take j)) (by rw [HF0]; rfl)
              have hk := And.intro c0 (And.intro c1' cj)
              clear hst HF0 rowg rowx
              generalize Gl.fit (p.take i) (s.take j) = y at *
              go_wp2_with fail
              refine wp_region_held_drew (S := fun w' => w'.cell? ⟨b, off + i * 2, none⟩ = some (.int .i64 2) ∧ w'.cell? ⟨b, off + i * 2 + 1, none⟩ = some (.int .i64 0) ∧ w'.cell? ⟨b1, off1 + j, none⟩ = some (.int .i64 (ch : Int))) (by kernel_rfl) hk (fun hHeld => ?_)
              refine takeAt (i := 0) (d := 57) (v := .int .i64 (k : Int)) rfl rfl (by kernel_rfl) (by kernel_rfl) (by kernel_rfl) (fun _ _ _ h => h) (Or.inl ⟨by rfl, fun w hSw => by obtain ⟨hS0, hS1, hS2⟩ := hSw; go_simp⟩) hHeld ?_
              simp only [List.setIfInBounds_toArray, List.set_cons_zero, List.set_cons_succ]
              refine takeAt (i := 1) (d := 58) (v := .bool true) rfl rfl (by kernel_rfl) (by kernel_rfl) (by kernel_rfl) (fun _ _ _ h => h) (Or.inl ⟨by rfl, fun w hSw => by obtain ⟨hS0, hS1, hS2⟩ := hSw; go_simp⟩) hHeld ?_
              simp only [List.setIfInBounds_toArray, List.set_cons_zero, List.set_cons_succ]
              refine takeAt (i := 2) (d := 59) (v := .bool true) rfl rfl (by kernel_rfl) (by kernel_rfl) (by kernel_rfl) (fun _ _ _ h => h) (Or.inl ⟨by rfl, fun w hSw => by obtain ⟨hS0, hS1, hS2⟩ := hSw; go_simp⟩) hHeld ?_
              simp only [List.setIfInBounds_toArray, List.set_cons_zero, List.set_cons_succ]
              refine takeAt (i := 3) (d := 60) (v := .slice (some ⟨b, off, none⟩) p.length c) rfl rfl (by kernel_rfl) (by kernel_rfl) (by kernel_rfl) (fun _ _ _ h => h) (Or.inl ⟨by rfl, fun w hSw => by obtain ⟨hS0, hS1, hS2⟩ := hSw; go_simp⟩) hHeld ?_
              simp only [List.setIfInBounds_toArray, List.set_cons_zero, List.set_cons_succ]
              refine takeAt (i := 4) (d := 61) (v := .int .i64 (i : Int)) rfl rfl (by kernel_rfl) (by kernel_rfl) (by kernel_rfl) (fun _ _ _ h => h) (Or.inl ⟨by rfl, fun w hSw => by obtain ⟨hS0, hS1, hS2⟩ := hSw; go_simp⟩) hHeld ?_
              simp only [List.setIfInBounds_toArray, List.set_cons_zero, List.set_cons_succ]
              refine takeAt (i := 5) (d := 62) (v := .pointer (some ⟨b, off + i * 2, none⟩)) rfl rfl (by kernel_rfl) (by kernel_rfl) (by kernel_rfl) (fun _ _ _ h => h) (Or.inl ⟨by rfl, fun w hSw => by obtain ⟨hS0, hS1, hS2⟩ := hSw; go_simp⟩) hHeld ?_
              simp only [List.setIfInBounds_toArray, List.set_cons_zero, List.set_cons_succ]
              refine takeAt (i := 6) (d := 63) (v := .pointer (some ⟨b, off + i * 2, none⟩)) rfl rfl (by kernel_rfl) (by kernel_rfl) (by kernel_rfl) (fun _ _ _ h => h) (Or.inl ⟨by rfl, fun w hSw => by obtain ⟨hS0, hS1, hS2⟩ := hSw; go_simp⟩) hHeld ?_
              simp only [List.setIfInBounds_toArray, List.set_cons_zero, List.set_cons_succ]
              refine takeAt (i := 7) (d := 64) (v := .int .i64 2) rfl rfl (by kernel_rfl) (by kernel_rfl) (by kernel_rfl) (fun _ _ _ h => h) (Or.inl ⟨by rfl, fun w hSw => by obtain ⟨hS0, hS1, hS2⟩ := hSw; go_simp⟩) hHeld ?_
              simp only [List.setIfInBounds_toArray, List.set_cons_zero, List.set_cons_succ]
              refine takeAt (i := 8) (d := 65) (v := .bool true) rfl rfl (by kernel_rfl) (by kernel_rfl) (by kernel_rfl) (fun _ _ _ h => h) (Or.inl ⟨by rfl, fun w hSw => by obtain ⟨hS0, hS1, hS2⟩ := hSw; go_simp⟩) hHeld ?_
              simp only [List.setIfInBounds_toArray, List.set_cons_zero, List.set_cons_succ]
              refine takeAt (i := 9) (d := 66) (v := .bool true) rfl rfl (by kernel_rfl) (by kernel_rfl) (by kernel_rfl) (fun _ _ _ h => h) (Or.inl ⟨by rfl, fun w hSw => by obtain ⟨hS0, hS1, hS2⟩ := hSw; go_simp⟩) hHeld ?_
              simp only [List.setIfInBounds_toArray, List.set_cons_zero, List.set_cons_succ]
              refine takeAt (i := 10) (d := 67) (v := undef) rfl rfl (by kernel_rfl) (by kernel_rfl) (by kernel_rfl) (fun _ _ _ h => h) (Or.inr ⟨by rfl, rfl⟩) hHeld ?_
              simp only [List.setIfInBounds_toArray, List.set_cons_zero, List.set_cons_succ]
              refine takeAt (i := 11) (d := 68) (v := undef) rfl rfl (by kernel_rfl) (by kernel_rfl) (by kernel_rfl) (fun _ _ _ h => h) (Or.inr ⟨by rfl, rfl⟩) hHeld ?_
              simp only [List.setIfInBounds_toArray, List.set_cons_zero, List.set_cons_succ]
              refine takeAt (i := 12) (d := 69) (v := undef) rfl rfl (by kernel_rfl) (by kernel_rfl) (by kernel_rfl) (fun _ _ _ h => h) (Or.inr ⟨by rfl, rfl⟩) hHeld ?_
              simp only [List.setIfInBounds_toArray, List.set_cons_zero, List.set_cons_succ]
              refine takeAt (i := 13) (d := 70) (v := undef) rfl rfl (by kernel_rfl) (by kernel_rfl) (by kernel_rfl) (fun _ _ _ h => h) (Or.inr ⟨by rfl, rfl⟩) hHeld ?_
              simp only [List.setIfInBounds_toArray, List.set_cons_zero, List.set_cons_succ]
              refine takeAt (i := 14) (d := 71) (v := undef) rfl rfl (by kernel_rfl) (by kernel_rfl) (by kernel_rfl) (fun _ _ _ h => h) (Or.inr ⟨by rfl, rfl⟩) hHeld ?_
              simp only [List.setIfInBounds_toArray, List.set_cons_zero, List.set_cons_succ]
              refine takeAt (i := 15) (d := 72) (v := undef) rfl rfl (by kernel_rfl) (by kernel_rfl) (by kernel_rfl) (fun _ _ _ h => h) (Or.inr ⟨by rfl, rfl⟩) hHeld ?_
              simp only [List.setIfInBounds_toArray, List.set_cons_zero, List.set_cons_succ]
              refine takeAt (i := 16) (d := 73) (v := undef) rfl rfl (by kernel_rfl) (by kernel_rfl) (by kernel_rfl) (fun _ _ _ h => h) (Or.inr ⟨by rfl, rfl⟩) hHeld ?_
              simp only [List.setIfInBounds_toArray, List.set_cons_zero, List.set_cons_succ]
              refine takeAt (i := 17) (d := 74) (v := undef) rfl rfl (by kernel_rfl) (by kernel_rfl) (by kernel_rfl) (fun _ _ _ h => h) (Or.inr ⟨by rfl, rfl⟩) hHeld ?_
              simp only [List.setIfInBounds_toArray, List.set_cons_zero, List.set_cons_succ]
              refine takeAt (i := 18) (d := 75) (v := undef) rfl rfl (by kernel_rfl) (by kernel_rfl) (by kernel_rfl) (fun _ _ _ h => h) (Or.inr ⟨by rfl, rfl⟩) hHeld ?_
              simp only [List.setIfInBounds_toArray, List.set_cons_zero, List.set_cons_succ]
              refine takeAt (i := 19) (d := 76) (v := undef) rfl rfl (by kernel_rfl) (by kernel_rfl) (by kernel_rfl) (fun _ _ _ h => h) (Or.inr ⟨by rfl, rfl⟩) hHeld ?_
              simp only [List.setIfInBounds_toArray, List.set_cons_zero, List.set_cons_succ]
              refine takeAt (i := 20) (d := 77) (v := undef) rfl rfl (by kernel_rfl) (by kernel_rfl) (by kernel_rfl) (fun _ _ _ h => h) (Or.inr ⟨by rfl, rfl⟩) hHeld ?_
              simp only [List.setIfInBounds_toArray, List.set_cons_zero, List.set_cons_succ]
              refine takeAt (i := 21) (d := 78) (v := .bool true) rfl rfl (by kernel_rfl) (by kernel_rfl) (by kernel_rfl) (fun _ _ _ h => h) (Or.inl ⟨by rfl, fun w hSw => by obtain ⟨hS0, hS1, hS2⟩ := hSw; go_simp⟩) hHeld ?_
              simp only [List.setIfInBounds_toArray, List.set_cons_zero, List.set_cons_succ]
              refine takeAt (i := 22) (d := 79) (v := .bool true) rfl rfl (by kernel_rfl) (by kernel_rfl) (by kernel_rfl) (fun _ _ _ h => h) (Or.inl ⟨by rfl, fun w hSw => by obtain ⟨hS0, hS1, hS2⟩ := hSw; go_simp⟩) hHeld ?_
              simp only [List.setIfInBounds_toArray, List.set_cons_zero, List.set_cons_succ]
              refine takeAt (i := 23) (d := 56) (v := .bool true) rfl rfl (by kernel_rfl) (by kernel_rfl) (by kernel_rfl) (fun _ _ _ h => h) (Or.inl ⟨by rfl, fun w hSw => by obtain ⟨hS0, hS1, hS2⟩ := hSw; go_simp⟩) hHeld ?_
              simp only [List.setIfInBounds_toArray, List.set_cons_zero, List.set_cons_succ]
              refine wpAnyH_done (by kernel_rfl) ?_ _
              go_wp2_with fail
              go_roundw
              case rel => exact ⟨k + 1, by go_num, by omega, s2, s1, (hbw.drew).setCell (by show _ ≤ g2; omega) _⟩
              case measure => simp [intOf]; omega
          | lit r =>
            rw [hpi] at d0 d1 htk
            have c0 := d0 _ rfl
            have c1' := d1 _ rfl
            clear d0 d1
            rcases Nat.eq_zero_or_pos k with hk00 | hkp
            · have hk0 : ¬ (0 : Int) < (k : Int) := by omega
              have HF : Hid (Gl.fit (p.take (i + 1)) (s.take k) = false) := hid (by rw [hk00, htk]; exact Gl.dp_zero (by simp) _ _)
              have hk : wr.cell? ⟨b, off + i * 2, none⟩ = some (.int .i64 0) := c0
              have HK0 := hid hk00
              clear hst hpi htk hk00
              go_wp2_with fail
              refine wp_region_held_drew (S := fun w' => w'.cell? ⟨b, off + i * 2, none⟩ = some (.int .i64 0)) (by kernel_rfl) hk (fun hHeld => ?_)
              refine takeAt (i := 0) (d := 57) (v := .int .i64 (k : Int)) rfl rfl (by kernel_rfl) (by kernel_rfl) (by kernel_rfl) (fun _ _ _ h => h) (Or.inl ⟨by rfl, fun w hSw => by go_simp⟩) hHeld ?_
              simp only [List.setIfInBounds_toArray, List.set_cons_zero, List.set_cons_succ]
              refine takeAt (i := 1) (d := 58) (v := .bool false) rfl rfl (by kernel_rfl) (by kernel_rfl) (by kernel_rfl) (fun _ _ _ h => h) (Or.inl ⟨by rfl, fun w hSw => by go_simp; first | done | exact HK0.out | (simp; exact HK0.out)⟩) hHeld ?_
              simp only [List.setIfInBounds_toArray, List.set_cons_zero, List.set_cons_succ]
              refine takeAt (i := 2) (d := 59) (v := .bool false) rfl rfl (by kernel_rfl) (by kernel_rfl) (by kernel_rfl) (fun _ _ _ h => h) (Or.inl ⟨by rfl, fun w hSw => by go_simp⟩) hHeld ?_
              simp only [List.setIfInBounds_toArray, List.set_cons_zero, List.set_cons_succ]
              refine takeAt (i := 3) (d := 60) (v := undef) rfl rfl (by kernel_rfl) (by kernel_rfl) (by kernel_rfl) (fun _ _ _ h => h) (Or.inr ⟨by rfl, rfl⟩) hHeld ?_
              simp only [List.setIfInBounds_toArray, List.set_cons_zero, List.set_cons_succ]
              refine takeAt (i := 4) (d := 61) (v := undef) rfl rfl (by kernel_rfl) (by kernel_rfl) (by kernel_rfl) (fun _ _ _ h => h) (Or.inr ⟨by rfl, rfl⟩) hHeld ?_
              simp only [List.setIfInBounds_toArray, List.set_cons_zero, List.set_cons_succ]
              refine takeAt (i := 5) (d := 62) (v := undef) rfl rfl (by kernel_rfl) (by kernel_rfl) (by kernel_rfl) (fun _ _ _ h => h) (Or.inr ⟨by rfl, rfl⟩) hHeld ?_
              simp only [List.setIfInBounds_toArray, List.set_cons_zero, List.set_cons_succ]
              refine takeAt (i := 6) (d := 63) (v := undef) rfl rfl (by kernel_rfl) (by kernel_rfl) (by kernel_rfl) (fun _ _ _ h => h) (Or.inr ⟨by rfl, rfl⟩) hHeld ?_
              simp only [List.setIfInBounds_toArray, List.set_cons_zero, List.set_cons_succ]
              refine takeAt (i := 7) (d := 64) (v := undef) rfl rfl (by kernel_rfl) (by kernel_rfl) (by kernel_rfl) (fun _ _ _ h => h) (Or.inr ⟨by rfl, rfl⟩) hHeld ?_
              simp only [List.setIfInBounds_toArray, List.set_cons_zero, List.set_cons_succ]
              refine takeAt (i := 8) (d := 65) (v := undef) rfl rfl (by kernel_rfl) (by kernel_rfl) (by kernel_rfl) (fun _ _ _ h => h) (Or.inr ⟨by rfl, rfl⟩) hHeld ?_
              simp only [List.setIfInBounds_toArray, List.set_cons_zero, List.set_cons_succ]
              refine takeAt (i := 9) (d := 66) (v := undef) rfl rfl (by kernel_rfl) (by kernel_rfl) (by kernel_rfl) (fun _ _ _ h => h) (Or.inr ⟨by rfl, rfl⟩) hHeld ?_
              simp only [List.setIfInBounds_toArray, List.set_cons_zero, List.set_cons_succ]
              refine takeAt (i := 10) (d := 67) (v := undef) rfl rfl (by kernel_rfl) (by kernel_rfl) (by kernel_rfl) (fun _ _ _ h => h) (Or.inr ⟨by rfl, rfl⟩) hHeld ?_
              simp only [List.setIfInBounds_toArray, List.set_cons_zero, List.set_cons_succ]
              refine takeAt (i := 11) (d := 68) (v := undef) rfl rfl (by kernel_rfl) (by kernel_rfl) (by kernel_rfl) (fun _ _ _ h => h) (Or.inr ⟨by rfl, rfl⟩) hHeld ?_
              simp only [List.setIfInBounds_toArray, List.set_cons_zero, List.set_cons_succ]
              refine takeAt (i := 12) (d := 69) (v := undef) rfl rfl (by kernel_rfl) (by kernel_rfl) (by kernel_rfl) (fun _ _ _ h => h) (Or.inr ⟨by rfl, rfl⟩) hHeld ?_
              simp only [List.setIfInBounds_toArray, List.set_cons_zero, List.set_cons_succ]
              refine takeAt (i := 13) (d := 70) (v := undef) rfl rfl (by kernel_rfl) (by kernel_rfl) (by kernel_rfl) (fun _ _ _ h => h) (Or.inr ⟨by rfl, rfl⟩) hHeld ?_
              simp only [List.setIfInBounds_toArray, List.set_cons_zero, List.set_cons_succ]
              refine takeAt (i := 14) (d := 71) (v := undef) rfl rfl (by kernel_rfl) (by kernel_rfl) (by kernel_rfl) (fun _ _ _ h => h) (Or.inr ⟨by rfl, rfl⟩) hHeld ?_
              simp only [List.setIfInBounds_toArray, List.set_cons_zero, List.set_cons_succ]
              refine takeAt (i := 15) (d := 72) (v := undef) rfl rfl (by kernel_rfl) (by kernel_rfl) (by kernel_rfl) (fun _ _ _ h => h) (Or.inr ⟨by rfl, rfl⟩) hHeld ?_
              simp only [List.setIfInBounds_toArray, List.set_cons_zero, List.set_cons_succ]
              refine takeAt (i := 16) (d := 73) (v := undef) rfl rfl (by kernel_rfl) (by kernel_rfl) (by kernel_rfl) (fun _ _ _ h => h) (Or.inr ⟨by rfl, rfl⟩) hHeld ?_
              simp only [List.setIfInBounds_toArray, List.set_cons_zero, List.set_cons_succ]
              refine takeAt (i := 17) (d := 74) (v := undef) rfl rfl (by kernel_rfl) (by kernel_rfl) (by kernel_rfl) (fun _ _ _ h => h) (Or.inr ⟨by rfl, rfl⟩) hHeld ?_
              simp only [List.setIfInBounds_toArray, List.set_cons_zero, List.set_cons_succ]
              refine takeAt (i := 18) (d := 75) (v := undef) rfl rfl (by kernel_rfl) (by kernel_rfl) (by kernel_rfl) (fun _ _ _ h => h) (Or.inr ⟨by rfl, rfl⟩) hHeld ?_
              simp only [List.setIfInBounds_toArray, List.set_cons_zero, List.set_cons_succ]
              refine takeAt (i := 19) (d := 76) (v := undef) rfl rfl (by kernel_rfl) (by kernel_rfl) (by kernel_rfl) (fun _ _ _ h => h) (Or.inr ⟨by rfl, rfl⟩) hHeld ?_
              simp only [List.setIfInBounds_toArray, List.set_cons_zero, List.set_cons_succ]
              refine takeAt (i := 20) (d := 77) (v := undef) rfl rfl (by kernel_rfl) (by kernel_rfl) (by kernel_rfl) (fun _ _ _ h => h) (Or.inr ⟨by rfl, rfl⟩) hHeld ?_
              simp only [List.setIfInBounds_toArray, List.set_cons_zero, List.set_cons_succ]
              refine takeAt (i := 21) (d := 78) (v := undef) rfl rfl (by kernel_rfl) (by kernel_rfl) (by kernel_rfl) (fun _ _ _ h => h) (Or.inr ⟨by rfl, rfl⟩) hHeld ?_
              simp only [List.setIfInBounds_toArray, List.set_cons_zero, List.set_cons_succ]
              refine takeAt (i := 22) (d := 79) (v := .bool false) rfl rfl (by kernel_rfl) (by kernel_rfl) (by kernel_rfl) (fun _ _ _ h => h) (Or.inl ⟨by rfl, fun w hSw => by go_simp⟩) hHeld ?_
              simp only [List.setIfInBounds_toArray, List.set_cons_zero, List.set_cons_succ]
              refine takeAt (i := 23) (d := 56) (v := .bool false) rfl rfl (by kernel_rfl) (by kernel_rfl) (by kernel_rfl) (fun _ _ _ h => h) (Or.inl ⟨by rfl, fun w hSw => by go_simp⟩) hHeld ?_
              simp only [List.setIfInBounds_toArray, List.set_cons_zero, List.set_cons_succ]
              refine wpAnyH_done (by kernel_rfl) ?_ _
              go_wp2_with fail
              go_roundw
              case rel => exact ⟨k + 1, by go_num, by omega, rowg, by rw [nxL_skip p s i k hkn HF.out]; exact rowx, hbw.drew⟩
              case measure => simp [intOf]; omega
            · have hjs : k - 1 < s.length := by omega
              have HF0 : Gl.fit (p.take (i + 1)) (s.take (k - 1 + 1)) = (Gl.Sg.hits (.lit r) s[k - 1] && Gl.fit (p.take i) (s.take (k - 1))) := by rw [htk]; exact Gl.dp_sign (by simp) _ _ _ hjs
              rw [show k - 1 + 1 = k by omega] at HF0
              have ha := atL_at p s i (k - 1) (by omega)
              obtain ⟨b1, off1, rfl, hb1, cj⟩ := KI_at h1 hjs
              rw [← hbw.cell (p := ⟨b1, off1 + (k - 1), none⟩) hb1] at cj
              obtain ⟨j, hj⟩ : ∃ j, j = k - 1 := ⟨_, rfl⟩
              have zi : IntKind.i64.wrap ((k : Int) - 1) = (j : Int) := by rw [IntKind.wrap_i64]; omega
              have zi2 : (k : Int) - 1 = (j : Int) := by omega
              have zi3 : IntKind.i64.wrap (j : Int) = (j : Int) := by rw [IntKind.wrap_i64]; omega
              have hk0 : (0 : Int) < (k : Int) := by omega
              have hjn : (j : Int) < (s.length : Int) + 1 := by omega
              have hjs2 : (j : Int) < (s.length : Int) := by omega
              generalize s[k - 1] = ch at *
              rw [← hj] at ha cj HF0
              have aj : wr.cell? ⟨g, j, none⟩ = some (.bool (Gl.fit (p.take i) (s.take j))) := held_cell rowg ha
              clear htk hpi ha hj hjs h1
              by_cases hrc : r = ch
              · subst hrc
                obtain ⟨s1, s2⟩ := hst (Gl.fit (p.take i) (s.take j)) (by rw [HF0]; simp [Gl.Sg.hits])
                have hk := And.intro c0 (And.intro c1' cj)
                have hq : ((r : Int) == (r : Int)) = true := by simp
                clear hst HF0 rowg rowx
                generalize Gl.fit (p.take i) (s.take j) = y at *
                go_wp2_with fail
                refine wp_region_held_drew (S := fun w' => w'.cell? ⟨b, off + i * 2, none⟩ = some (.int .i64 0) ∧ w'.cell? ⟨b, off + i * 2 + 1, none⟩ = some (.int .i64 (r : Int)) ∧ w'.cell? ⟨b1, off1 + j, none⟩ = some (.int .i64 (r : Int))) (by kernel_rfl) hk (fun hHeld => ?_)
                refine takeAt (i := 0) (d := 57) (v := .int .i64 (k : Int)) rfl rfl (by kernel_rfl) (by kernel_rfl) (by kernel_rfl) (fun _ _ _ h => h) (Or.inl ⟨by rfl, fun w hSw => by obtain ⟨hS0, hS1, hS2⟩ := hSw; go_simp⟩) hHeld ?_
                simp only [List.setIfInBounds_toArray, List.set_cons_zero, List.set_cons_succ]
                refine takeAt (i := 1) (d := 58) (v := .bool true) rfl rfl (by kernel_rfl) (by kernel_rfl) (by kernel_rfl) (fun _ _ _ h => h) (Or.inl ⟨by rfl, fun w hSw => by obtain ⟨hS0, hS1, hS2⟩ := hSw; go_simp⟩) hHeld ?_
                simp only [List.setIfInBounds_toArray, List.set_cons_zero, List.set_cons_succ]
                refine takeAt (i := 2) (d := 59) (v := .bool true) rfl rfl (by kernel_rfl) (by kernel_rfl) (by kernel_rfl) (fun _ _ _ h => h) (Or.inl ⟨by rfl, fun w hSw => by obtain ⟨hS0, hS1, hS2⟩ := hSw; go_simp⟩) hHeld ?_
                simp only [List.setIfInBounds_toArray, List.set_cons_zero, List.set_cons_succ]
                refine takeAt (i := 3) (d := 60) (v := .slice (some ⟨b, off, none⟩) p.length c) rfl rfl (by kernel_rfl) (by kernel_rfl) (by kernel_rfl) (fun _ _ _ h => h) (Or.inl ⟨by rfl, fun w hSw => by obtain ⟨hS0, hS1, hS2⟩ := hSw; go_simp⟩) hHeld ?_
                simp only [List.setIfInBounds_toArray, List.set_cons_zero, List.set_cons_succ]
                refine takeAt (i := 4) (d := 61) (v := .int .i64 (i : Int)) rfl rfl (by kernel_rfl) (by kernel_rfl) (by kernel_rfl) (fun _ _ _ h => h) (Or.inl ⟨by rfl, fun w hSw => by obtain ⟨hS0, hS1, hS2⟩ := hSw; go_simp⟩) hHeld ?_
                simp only [List.setIfInBounds_toArray, List.set_cons_zero, List.set_cons_succ]
                refine takeAt (i := 5) (d := 62) (v := .pointer (some ⟨b, off + i * 2, none⟩)) rfl rfl (by kernel_rfl) (by kernel_rfl) (by kernel_rfl) (fun _ _ _ h => h) (Or.inl ⟨by rfl, fun w hSw => by obtain ⟨hS0, hS1, hS2⟩ := hSw; go_simp⟩) hHeld ?_
                simp only [List.setIfInBounds_toArray, List.set_cons_zero, List.set_cons_succ]
                refine takeAt (i := 6) (d := 63) (v := .pointer (some ⟨b, off + i * 2, none⟩)) rfl rfl (by kernel_rfl) (by kernel_rfl) (by kernel_rfl) (fun _ _ _ h => h) (Or.inl ⟨by rfl, fun w hSw => by obtain ⟨hS0, hS1, hS2⟩ := hSw; go_simp⟩) hHeld ?_
                simp only [List.setIfInBounds_toArray, List.set_cons_zero, List.set_cons_succ]
                refine takeAt (i := 7) (d := 64) (v := .int .i64 0) rfl rfl (by kernel_rfl) (by kernel_rfl) (by kernel_rfl) (fun _ _ _ h => h) (Or.inl ⟨by rfl, fun w hSw => by obtain ⟨hS0, hS1, hS2⟩ := hSw; go_simp⟩) hHeld ?_
                simp only [List.setIfInBounds_toArray, List.set_cons_zero, List.set_cons_succ]
                refine takeAt (i := 8) (d := 65) (v := .bool false) rfl rfl (by kernel_rfl) (by kernel_rfl) (by kernel_rfl) (fun _ _ _ h => h) (Or.inl ⟨by rfl, fun w hSw => by obtain ⟨hS0, hS1, hS2⟩ := hSw; go_simp⟩) hHeld ?_
                simp only [List.setIfInBounds_toArray, List.set_cons_zero, List.set_cons_succ]
                refine takeAt (i := 9) (d := 66) (v := .bool false) rfl rfl (by kernel_rfl) (by kernel_rfl) (by kernel_rfl) (fun _ _ _ h => h) (Or.inl ⟨by rfl, fun w hSw => by obtain ⟨hS0, hS1, hS2⟩ := hSw; go_simp⟩) hHeld ?_
                simp only [List.setIfInBounds_toArray, List.set_cons_zero, List.set_cons_succ]
                refine takeAt (i := 10) (d := 67) (v := .slice (some ⟨b, off, none⟩) p.length c) rfl rfl (by kernel_rfl) (by kernel_rfl) (by kernel_rfl) (fun _ _ _ h => h) (Or.inl ⟨by rfl, fun w hSw => by obtain ⟨hS0, hS1, hS2⟩ := hSw; go_simp⟩) hHeld ?_
                simp only [List.setIfInBounds_toArray, List.set_cons_zero, List.set_cons_succ]
                refine takeAt (i := 11) (d := 68) (v := .int .i64 (i : Int)) rfl rfl (by kernel_rfl) (by kernel_rfl) (by kernel_rfl) (fun _ _ _ h => h) (Or.inl ⟨by rfl, fun w hSw => by obtain ⟨hS0, hS1, hS2⟩ := hSw; go_simp⟩) hHeld ?_
                simp only [List.setIfInBounds_toArray, List.set_cons_zero, List.set_cons_succ]
                refine takeAt (i := 12) (d := 69) (v := .pointer (some ⟨b, off + i * 2, none⟩)) rfl rfl (by kernel_rfl) (by kernel_rfl) (by kernel_rfl) (fun _ _ _ h => h) (Or.inl ⟨by rfl, fun w hSw => by obtain ⟨hS0, hS1, hS2⟩ := hSw; go_simp⟩) hHeld ?_
                simp only [List.setIfInBounds_toArray, List.set_cons_zero, List.set_cons_succ]
                refine takeAt (i := 13) (d := 70) (v := .pointer (some ⟨b, off + i * 2 + 1, none⟩)) rfl rfl (by kernel_rfl) (by kernel_rfl) (by kernel_rfl) (fun _ _ _ h => h) (Or.inl ⟨by rfl, fun w hSw => by obtain ⟨hS0, hS1, hS2⟩ := hSw; go_simp⟩) hHeld ?_
                simp only [List.setIfInBounds_toArray, List.set_cons_zero, List.set_cons_succ]
                refine takeAt (i := 14) (d := 71) (v := .int .i64 (r : Int)) rfl rfl (by kernel_rfl) (by kernel_rfl) (by kernel_rfl) (fun _ _ _ h => h) (Or.inl ⟨by rfl, fun w hSw => by obtain ⟨hS0, hS1, hS2⟩ := hSw; go_simp⟩) hHeld ?_
                simp only [List.setIfInBounds_toArray, List.set_cons_zero, List.set_cons_succ]
                refine takeAt (i := 15) (d := 72) (v := .slice (some ⟨b1, off1, none⟩) s.length c1) rfl rfl (by kernel_rfl) (by kernel_rfl) (by kernel_rfl) (fun _ _ _ h => h) (Or.inl ⟨by rfl, fun w hSw => by obtain ⟨hS0, hS1, hS2⟩ := hSw; go_simp⟩) hHeld ?_
                simp only [List.setIfInBounds_toArray, List.set_cons_zero, List.set_cons_succ]
                refine takeAt (i := 16) (d := 73) (v := .int .i64 (k : Int)) rfl rfl (by kernel_rfl) (by kernel_rfl) (by kernel_rfl) (fun _ _ _ h => h) (Or.inl ⟨by rfl, fun w hSw => by obtain ⟨hS0, hS1, hS2⟩ := hSw; go_simp⟩) hHeld ?_
                simp only [List.setIfInBounds_toArray, List.set_cons_zero, List.set_cons_succ]
                refine takeAt (i := 17) (d := 74) (v := .int .i64 (j : Int)) rfl rfl (by kernel_rfl) (by kernel_rfl) (by kernel_rfl) (fun _ _ _ h => h) (Or.inl ⟨by rfl, fun w hSw => by obtain ⟨hS0, hS1, hS2⟩ := hSw; go_simp; first | done | exact zi | exact zi3 | omega⟩) hHeld ?_
                simp only [List.setIfInBounds_toArray, List.set_cons_zero, List.set_cons_succ]
                refine takeAt (i := 18) (d := 75) (v := .pointer (some ⟨b1, off1 + j, none⟩)) rfl rfl (by kernel_rfl) (by kernel_rfl) (by kernel_rfl) (fun _ _ _ h => h) (Or.inl ⟨by rfl, fun w hSw => by obtain ⟨hS0, hS1, hS2⟩ := hSw; go_simp⟩) hHeld ?_
                simp only [List.setIfInBounds_toArray, List.set_cons_zero, List.set_cons_succ]
                refine takeAt (i := 19) (d := 76) (v := .int .i64 (r : Int)) rfl rfl (by kernel_rfl) (by kernel_rfl) (by kernel_rfl) (fun _ _ _ h => h) (Or.inl ⟨by rfl, fun w hSw => by obtain ⟨hS0, hS1, hS2⟩ := hSw; go_simp⟩) hHeld ?_
                simp only [List.setIfInBounds_toArray, List.set_cons_zero, List.set_cons_succ]
                refine takeAt (i := 20) (d := 77) (v := .bool true) rfl rfl (by kernel_rfl) (by kernel_rfl) (by kernel_rfl) (fun _ _ _ h => h) (Or.inl ⟨by rfl, fun w hSw => by obtain ⟨hS0, hS1, hS2⟩ := hSw; go_simp; first | done | exact hq | simp [hq]⟩) hHeld ?_
                simp only [List.setIfInBounds_toArray, List.set_cons_zero, List.set_cons_succ]
                refine takeAt (i := 21) (d := 78) (v := .bool true) rfl rfl (by kernel_rfl) (by kernel_rfl) (by kernel_rfl) (fun _ _ _ h => h) (Or.inl ⟨by rfl, fun w hSw => by obtain ⟨hS0, hS1, hS2⟩ := hSw; go_simp⟩) hHeld ?_
                simp only [List.setIfInBounds_toArray, List.set_cons_zero, List.set_cons_succ]
                refine takeAt (i := 22) (d := 79) (v := .bool true) rfl rfl (by kernel_rfl) (by kernel_rfl) (by kernel_rfl) (fun _ _ _ h => h) (Or.inl ⟨by rfl, fun w hSw => by obtain ⟨hS0, hS1, hS2⟩ := hSw; go_simp⟩) hHeld ?_
                simp only [List.setIfInBounds_toArray, List.set_cons_zero, List.set_cons_succ]
                refine takeAt (i := 23) (d := 56) (v := .bool true) rfl rfl (by kernel_rfl) (by kernel_rfl) (by kernel_rfl) (fun _ _ _ h => h) (Or.inl ⟨by rfl, fun w hSw => by obtain ⟨hS0, hS1, hS2⟩ := hSw; go_simp⟩) hHeld ?_
                simp only [List.setIfInBounds_toArray, List.set_cons_zero, List.set_cons_succ]
                refine wpAnyH_done (by kernel_rfl) ?_ _
                go_wp2_with fail
                go_roundw
                case rel => exact ⟨k + 1, by go_num, by omega, s2, s1, (hbw.drew).setCell (by show _ ≤ g2; omega) _⟩
                case measure => simp [intOf]; omega
              · have HF : Hid (Gl.fit (p.take (i + 1)) (s.take k) = false) := hid (by rw [HF0]; simp [Gl.Sg.hits, hrc])
                have hk := And.intro c0 (And.intro c1' cj)
                have hq : ((r : Int) == (ch : Int)) = false := by simp; omega
                clear hst HF0 hrc
                go_wp2_with fail
                refine wp_region_held_drew (S := fun w' => w'.cell? ⟨b, off + i * 2, none⟩ = some (.int .i64 0) ∧ w'.cell? ⟨b, off + i * 2 + 1, none⟩ = some (.int .i64 (r : Int)) ∧ w'.cell? ⟨b1, off1 + j, none⟩ = some (.int .i64 (ch : Int))) (by kernel_rfl) hk (fun hHeld => ?_)
                refine takeAt (i := 0) (d := 57) (v := .int .i64 (k : Int)) rfl rfl (by kernel_rfl) (by kernel_rfl) (by kernel_rfl) (fun _ _ _ h => h) (Or.inl ⟨by rfl, fun w hSw => by obtain ⟨hS0, hS1, hS2⟩ := hSw; go_simp⟩) hHeld ?_
                simp only [List.setIfInBounds_toArray, List.set_cons_zero, List.set_cons_succ]
                refine takeAt (i := 1) (d := 58) (v := .bool true) rfl rfl (by kernel_rfl) (by kernel_rfl) (by kernel_rfl) (fun _ _ _ h => h) (Or.inl ⟨by rfl, fun w hSw => by obtain ⟨hS0, hS1, hS2⟩ := hSw; go_simp⟩) hHeld ?_
                simp only [List.setIfInBounds_toArray, List.set_cons_zero, List.set_cons_succ]
                refine takeAt (i := 2) (d := 59) (v := .bool true) rfl rfl (by kernel_rfl) (by kernel_rfl) (by kernel_rfl) (fun _ _ _ h => h) (Or.inl ⟨by rfl, fun w hSw => by obtain ⟨hS0, hS1, hS2⟩ := hSw; go_simp⟩) hHeld ?_
                simp only [List.setIfInBounds_toArray, List.set_cons_zero, List.set_cons_succ]
                refine takeAt (i := 3) (d := 60) (v := .slice (some ⟨b, off, none⟩) p.length c) rfl rfl (by kernel_rfl) (by kernel_rfl) (by kernel_rfl) (fun _ _ _ h => h) (Or.inl ⟨by rfl, fun w hSw => by obtain ⟨hS0, hS1, hS2⟩ := hSw; go_simp⟩) hHeld ?_
                simp only [List.setIfInBounds_toArray, List.set_cons_zero, List.set_cons_succ]
                refine takeAt (i := 4) (d := 61) (v := .int .i64 (i : Int)) rfl rfl (by kernel_rfl) (by kernel_rfl) (by kernel_rfl) (fun _ _ _ h => h) (Or.inl ⟨by rfl, fun w hSw => by obtain ⟨hS0, hS1, hS2⟩ := hSw; go_simp⟩) hHeld ?_
                simp only [List.setIfInBounds_toArray, List.set_cons_zero, List.set_cons_succ]
                refine takeAt (i := 5) (d := 62) (v := .pointer (some ⟨b, off + i * 2, none⟩)) rfl rfl (by kernel_rfl) (by kernel_rfl) (by kernel_rfl) (fun _ _ _ h => h) (Or.inl ⟨by rfl, fun w hSw => by obtain ⟨hS0, hS1, hS2⟩ := hSw; go_simp⟩) hHeld ?_
                simp only [List.setIfInBounds_toArray, List.set_cons_zero, List.set_cons_succ]
                refine takeAt (i := 6) (d := 63) (v := .pointer (some ⟨b, off + i * 2, none⟩)) rfl rfl (by kernel_rfl) (by kernel_rfl) (by kernel_rfl) (fun _ _ _ h => h) (Or.inl ⟨by rfl, fun w hSw => by obtain ⟨hS0, hS1, hS2⟩ := hSw; go_simp⟩) hHeld ?_
                simp only [List.setIfInBounds_toArray, List.set_cons_zero, List.set_cons_succ]
                refine takeAt (i := 7) (d := 64) (v := .int .i64 0) rfl rfl (by kernel_rfl) (by kernel_rfl) (by kernel_rfl) (fun _ _ _ h => h) (Or.inl ⟨by rfl, fun w hSw => by obtain ⟨hS0, hS1, hS2⟩ := hSw; go_simp⟩) hHeld ?_
                simp only [List.setIfInBounds_toArray, List.set_cons_zero, List.set_cons_succ]
                refine takeAt (i := 8) (d := 65) (v := .bool false) rfl rfl (by kernel_rfl) (by kernel_rfl) (by kernel_rfl) (fun _ _ _ h => h) (Or.inl ⟨by rfl, fun w hSw => by obtain ⟨hS0, hS1, hS2⟩ := hSw; go_simp⟩) hHeld ?_
                simp only [List.setIfInBounds_toArray, List.set_cons_zero, List.set_cons_succ]
                refine takeAt (i := 9) (d := 66) (v := .bool false) rfl rfl (by kernel_rfl) (by kernel_rfl) (by kernel_rfl) (fun _ _ _ h => h) (Or.inl ⟨by rfl, fun w hSw => by obtain ⟨hS0, hS1, hS2⟩ := hSw; go_simp⟩) hHeld ?_
                simp only [List.setIfInBounds_toArray, List.set_cons_zero, List.set_cons_succ]
                refine takeAt (i := 10) (d := 67) (v := .slice (some ⟨b, off, none⟩) p.length c) rfl rfl (by kernel_rfl) (by kernel_rfl) (by kernel_rfl) (fun _ _ _ h => h) (Or.inl ⟨by rfl, fun w hSw => by obtain ⟨hS0, hS1, hS2⟩ := hSw; go_simp⟩) hHeld ?_
                simp only [List.setIfInBounds_toArray, List.set_cons_zero, List.set_cons_succ]
                refine takeAt (i := 11) (d := 68) (v := .int .i64 (i : Int)) rfl rfl (by kernel_rfl) (by kernel_rfl) (by kernel_rfl) (fun _ _ _ h => h) (Or.inl ⟨by rfl, fun w hSw => by obtain ⟨hS0, hS1, hS2⟩ := hSw; go_simp⟩) hHeld ?_
                simp only [List.setIfInBounds_toArray, List.set_cons_zero, List.set_cons_succ]
                refine takeAt (i := 12) (d := 69) (v := .pointer (some ⟨b, off + i * 2, none⟩)) rfl rfl (by kernel_rfl) (by kernel_rfl) (by kernel_rfl) (fun _ _ _ h => h) (Or.inl ⟨by rfl, fun w hSw => by obtain ⟨hS0, hS1, hS2⟩ := hSw; go_simp⟩) hHeld ?_
                simp only [List.setIfInBounds_toArray, List.set_cons_zero, List.set_cons_succ]
                refine takeAt (i := 13) (d := 70) (v := .pointer (some ⟨b, off + i * 2 + 1, none⟩)) rfl rfl (by kernel_rfl) (by kernel_rfl) (by kernel_rfl) (fun _ _ _ h => h) (Or.inl ⟨by rfl, fun w hSw => by obtain ⟨hS0, hS1, hS2⟩ := hSw; go_simp⟩) hHeld ?_
                simp only [List.setIfInBounds_toArray, List.set_cons_zero, List.set_cons_succ]
                refine takeAt (i := 14) (d := 71) (v := .int .i64 (r : Int)) rfl rfl (by kernel_rfl) (by kernel_rfl) (by kernel_rfl) (fun _ _ _ h => h) (Or.inl ⟨by rfl, fun w hSw => by obtain ⟨hS0, hS1, hS2⟩ := hSw; go_simp⟩) hHeld ?_
                simp only [List.setIfInBounds_toArray, List.set_cons_zero, List.set_cons_succ]
                refine takeAt (i := 15) (d := 72) (v := .slice (some ⟨b1, off1, none⟩) s.length c1) rfl rfl (by kernel_rfl) (by kernel_rfl) (by kernel_rfl) (fun _ _ _ h => h) (Or.inl ⟨by rfl, fun w hSw => by obtain ⟨hS0, hS1, hS2⟩ := hSw; go_simp⟩) hHeld ?_
                simp only [List.setIfInBounds_toArray, List.set_cons_zero, List.set_cons_succ]
                refine takeAt (i := 16) (d := 73) (v := .int .i64 (k : Int)) rfl rfl (by kernel_rfl) (by kernel_rfl) (by kernel_rfl) (fun _ _ _ h => h) (Or.inl ⟨by rfl, fun w hSw => by obtain ⟨hS0, hS1, hS2⟩ := hSw; go_simp⟩) hHeld ?_
                simp only [List.setIfInBounds_toArray, List.set_cons_zero, List.set_cons_succ]
                refine takeAt (i := 17) (d := 74) (v := .int .i64 (j : Int)) rfl rfl (by kernel_rfl) (by kernel_rfl) (by kernel_rfl) (fun _ _ _ h => h) (Or.inl ⟨by rfl, fun w hSw => by obtain ⟨hS0, hS1, hS2⟩ := hSw; go_simp; first | done | exact zi | exact zi3 | omega⟩) hHeld ?_
                simp only [List.setIfInBounds_toArray, List.set_cons_zero, List.set_cons_succ]
                refine takeAt (i := 18) (d := 75) (v := .pointer (some ⟨b1, off1 + j, none⟩)) rfl rfl (by kernel_rfl) (by kernel_rfl) (by kernel_rfl) (fun _ _ _ h => h) (Or.inl ⟨by rfl, fun w hSw => by obtain ⟨hS0, hS1, hS2⟩ := hSw; go_simp⟩) hHeld ?_
                simp only [List.setIfInBounds_toArray, List.set_cons_zero, List.set_cons_succ]
                refine takeAt (i := 19) (d := 76) (v := .int .i64 (ch : Int)) rfl rfl (by kernel_rfl) (by kernel_rfl) (by kernel_rfl) (fun _ _ _ h => h) (Or.inl ⟨by rfl, fun w hSw => by obtain ⟨hS0, hS1, hS2⟩ := hSw; go_simp⟩) hHeld ?_
                simp only [List.setIfInBounds_toArray, List.set_cons_zero, List.set_cons_succ]
                refine takeAt (i := 20) (d := 77) (v := .bool false) rfl rfl (by kernel_rfl) (by kernel_rfl) (by kernel_rfl) (fun _ _ _ h => h) (Or.inl ⟨by rfl, fun w hSw => by obtain ⟨hS0, hS1, hS2⟩ := hSw; go_simp; first | done | exact hq | simp [hq]⟩) hHeld ?_
                simp only [List.setIfInBounds_toArray, List.set_cons_zero, List.set_cons_succ]
                refine takeAt (i := 21) (d := 78) (v := .bool false) rfl rfl (by kernel_rfl) (by kernel_rfl) (by kernel_rfl) (fun _ _ _ h => h) (Or.inl ⟨by rfl, fun w hSw => by obtain ⟨hS0, hS1, hS2⟩ := hSw; go_simp⟩) hHeld ?_
                simp only [List.setIfInBounds_toArray, List.set_cons_zero, List.set_cons_succ]
                refine takeAt (i := 22) (d := 79) (v := .bool false) rfl rfl (by kernel_rfl) (by kernel_rfl) (by kernel_rfl) (fun _ _ _ h => h) (Or.inl ⟨by rfl, fun w hSw => by obtain ⟨hS0, hS1, hS2⟩ := hSw; go_simp⟩) hHeld ?_
                simp only [List.setIfInBounds_toArray, List.set_cons_zero, List.set_cons_succ]
                refine takeAt (i := 23) (d := 56) (v := .bool false) rfl rfl (by kernel_rfl) (by kernel_rfl) (by kernel_rfl) (fun _ _ _ h => h) (Or.inl ⟨by rfl, fun w hSw => by obtain ⟨hS0, hS1, hS2⟩ := hSw; go_simp⟩) hHeld ?_
                simp only [List.setIfInBounds_toArray, List.set_cons_zero, List.set_cons_succ]
                refine wpAnyH_done (by kernel_rfl) ?_ _
                go_wp2_with fail
                go_roundw
                case rel => exact ⟨k + 1, by go_num, by omega, rowg, by rw [nxL_skip p s i k hkn HF.out]; exact rowx, hbw.drew⟩
                case measure => simp [intOf]; omega
        · have ek : k = s.length + 1 := by omega
          subst ek
          rw [nxL_done] at rowx
          have e9 : ¬ ((s.length : Int) + 1 ≤ (s.length : Int)) := by omega
          clear hcell
          go_wp2_with fail
          go_roundw
          case rel => exact ⟨i + 1, g2, by go_num, rfl, by omega, by omega, rowx, hbw⟩
          case measure => simp [intOf]; omega
    · have ei : i = p.length := by omega
      have ef : p.take i = p := List.take_of_length_le (by omega)
      have cz : wr.cell? ⟨g, s.length, none⟩ = some (.bool (Gl.fit p s)) := by
        have := held_cell rowg (atL_at p s i s.length (Nat.le_refl _))
        rw [ef, List.take_of_length_le (Nat.le_refl _)] at this
        exact this
      have hls : (s.length : Int) < (s.length : Int) + 1 := by omega
      clear rowg ef
      go_wp2_with fail
      go_ret
      exact ⟨rfl, hbw⟩
end Go.Proofs.YtlhodanpfpfodaaGreatDoor
