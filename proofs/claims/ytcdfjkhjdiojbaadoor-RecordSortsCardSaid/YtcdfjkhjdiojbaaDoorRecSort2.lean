/-
  What record.Sort answers: the entries sorted, equals as they stood. Conditions: the entries can be read; sizes as the theorem names.
-/
import Derived.Test.YtcdfjkhjdiojbaaDoorRecSort
namespace Go.Icz
open Go.RowKit
def ltT (x y : Ent) : Bool := decide (cmpE x y < 0)
theorem ltT_ord : SWOrd ltT := by
  have h := ltE_ord
  exact ⟨fun x y h1 => h.asym (x, none, 0) (y, none, 0) h1, fun x y z h1 => h.neg (x, none, 0) (y, none, 0) (z, none, 0) h1⟩
theorem stable_map {X M : List EV} (h : StableOf ltE X M) : StableOf ltT (X.map (·.1)) (M.map (·.1)) := by
  refine ⟨List.pairwise_map.2 h.1, fun x => ?_⟩
  rw [List.filter_map, List.filter_map]
  have := h.2 (x, none, 0)
  exact congrArg (List.map (·.1)) this
/-- The entries sorted, equals as they stood; they can be read. -/
def SortedOut (l : List Ent) (w : World) (e : Ending) (w' : World) : Prop := ∃ v r, e = .returned v ∧ RdE w' v r ∧ StableOf ltT l r ∧ r.length = l.length ∧ Below w.heap.size w w'
end Go.Icz
namespace Go.Proofs.YtcdfjkhjdiojbaaDoor
open Go.RowKit Go.Icz
set_option maxRecDepth 100000 in
theorem cloneE_some (ad : Addr) (c : Nat) (X : List EV) (w : World) (hR : RdV w (.slice (some ad) X.length c) X) (hlen : X.length * 56 ≤ 140737488355328) :
    Calls Tryd.prog 25 #[.slice (some ad) X.length c] w fun e w' => ∃ g cap, e = .returned (.slice (some ⟨g, 0, none⟩) X.length cap) ∧ Below w.heap.size w w' ∧ X.length ≤ cap ∧ w.heap.size ≤ g ∧ RowE w' g X := by
  have q22 : ∀ (w : World) (a : Option Addr) (n c n' c' : Nat), (binOp .eql 22 (.slice a n c) (.slice none n' c')).run Tryd.prog w = .ok (.bool a.isNone) w := fun w a n c n' c' => Lib.run_eql_slice_nil w _ _ a n c n' c' Tryd.underlying22
  have hR2 := fun o => hR.below ((Below.refl _ w).alloc (Nat.le_refl _) o)
  go_enter Tryd.func25, Tryd.ntmps25
  go_wp2_with (at_builtin; refine wp_appV rfl (.tmp 5) (.tmp 6) rfl w.heap.size _ _ [] X rfl (OwnV.made w (Nat.le_refl _)) rfl (hR2 _) (by simpa using hlen) (by simp) ?_; intro v' w1 hown hb _ hn)
  go_ret
  have hn2 : v' ≠ .slice none 0 0 := fun e => by have := hn e; cases this
  rw [List.nil_append] at hown
  obtain ⟨g, cap, rfl, e2, e3, e4⟩ := hown.row hn2
  exact ⟨g, cap, rfl, below_alloc (Nat.le_refl _) hb, e2, e3, e4⟩
set_option maxHeartbeats 4000000 in
set_option maxRecDepth 100000 in
theorem RSort_is (v : Value) (l : List Ent) (w : World) (hR : RdE w v l) (hz : ∀ x ∈ l, entZ x) (hlen : l.length * 56 ≤ 140737488351232) :
    Calls Tryd.prog 7 #[v] w (SortedOut l w) := by
  obtain ⟨X, hX, hV, hL⟩ := hR.places
  have hXl : X.length = l.length := by rw [← hX, List.length_map]
  have hV' := hV
  obtain ⟨A, c, rfl, hlc, hcell⟩ := hV'
  have HZ : Hid (∀ x ∈ l, entZ x) := hid hz
  clear hz hR
  rcases A with _ | ad
  · have hl : X = [] := by
      rcases Nat.eq_zero_or_pos X.length with h0 | h0
      · exact List.eq_nil_of_length_eq_zero h0
      · obtain ⟨b, off, e, _⟩ := hcell h0
        cases e
    subst hl
    have hl0 : l = [] := by rw [← hX]; rfl
    subst hl0
    have hC := fun w1 => AnyE.slices_Clone_nil Tryd.cloneE 0 c w1
    have hC2 : ∀ w1, Calls Tryd.prog 25 #[.slice none 0 c] w1 fun e w' => e = .returned (.slice none 0 0) ∧ w' = w1 := hC
    have hS := fun w1 => sortStable_none 28 w1
    unfold cmpF at hS
    clear hC hX hV hL hXl hcell HZ hlen
    go_enter Tryd.func7, Tryd.ntmps7
    go_wp2_with (first
      | (go_at_call 25; refine (hC2 _).mono ?_; rintro e w1 ⟨rfl, rfl⟩; clear hC2)
      | fail)
    have hb0 : Below w.heap.size w (w.alloc (.cells #[] 55)) := (Below.refl _ w).alloc (Nat.le_refl _) _
    go_loopw [10] (fun iv wr => iv = .int .i64 0 ∧ Below w.heap.size w wr) (fun _ _ => 0)
    case atStart => exact ⟨rfl, hb0⟩
    case round =>
      obtain ⟨rfl, hb⟩ := hrel
      go_wp2_with (first
        | (go_at_call 27; refine (hS _).mono ?_; rintro e w2 ⟨rfl, b2⟩; clear hS)
        | fail)
      go_ret
      exact ⟨_, [], rfl, ⟨none, 0, rfl, by simp, fun h => absurd h (by simp)⟩, StableOf.refl .nil, rfl, hb.trans (b2.mono hb.size)⟩
  · clear hcell
    have hV1 := fun o => hV.below ((Below.refl _ w).alloc (Nat.le_refl _) o)
    have hC := fun w1 (h : RdV w1 (.slice (some ad) X.length c) X) => cloneE_some ad c X w1 h (by omega)
    have HL := hid hL
    have HX := hid hX
    clear hV hL hX
    obtain ⟨n, hn⟩ : ∃ n, n = X.length := ⟨_, rfl⟩
    have HNX := hid hn
    have hn60 : n ≤ 1152921504606846976 := by omega
    have HLN : Hid (n = l.length) := hid (by omega)
    rw [← hn] at hC hV1 hlc ⊢
    clear hn hXl hlen
    go_enter Tryd.func7, Tryd.ntmps7
    go_wp2_with (first
      | (go_at_call 25; refine (hC _ (hV1 _)).mono ?_; rintro e w1 ⟨g, cap, rfl, b1, hnc, hg, r1⟩; clear hC hV1)
      | fail)
    have hb1 : Below w.heap.size w w1 := below_alloc (Nat.le_refl _) (b1.mono (by simp))
    have hgw : w.heap.size < g := by simp at hg; omega
    clear b1 hg
    go_loopw [10] (fun iv wr => ∃ (i : Nat) (Y : List EV), iv = .int .i64 i ∧ i ≤ n ∧ RowE wr g Y ∧ Hid (Y.map (·.1) = l) ∧ Hid (Y.length = n) ∧ Hid (∀ p ∈ Y, LabAt wr g p) ∧ Below w.heap.size w wr) (fun iv _ => n - (intOf iv).toNat)
    case atStart => exact ⟨0, X, rfl, by omega, r1, HX, hid HNX.out.symm, hid (fun p hp => (RdL.labAt (HL.out p hp) (by omega)).below hb1), hb1⟩
    case round =>
      obtain ⟨i, Y, rfl, hi, hr, HY, HYL, HLA, hbw⟩ := hrel
      by_cases hlt : i < n
      · have hlt' : (i : Int) < (n : Int) := by omega
        have hil : i < Y.length := by have := HYL.out; omega
        obtain ⟨c0, c1, c2, c3, f0, f1, f2, f3⟩ := hr.2 i hil
        obtain ⟨b0, hb0, hrl⟩ := HLA.out Y[i] (List.getElem_mem hil)
        have hxz := HZ.out (Y[i]).1 (by rw [← HY.out]; exact List.mem_map.2 ⟨_, List.getElem_mem hil, rfl⟩)
        have hcl := fun w2 (h : RdL w2 (.slice (Y[i]).2.1 (Y[i]).1.labs.length (Y[i]).2.2) (Y[i]).1.labs) => cloneLb_is _ (Y[i]).1.labs w2 h (by have := hxz.1; omega)
        have hgz := hr.1
        have HP : Hid (∀ w2 A' c', Below wr.heap.size wr w2 → RdL w2 (.slice A' (Y[i]).1.labs.length c') (Y[i]).1.labs → (0 < (Y[i]).1.labs.length → ∃ b off, A' = some ⟨b, off, none⟩ ∧ wr.heap.size ≤ b) →
            RowE (w2.setCell ⟨g, i * 4 + 2, none⟩ (.slice A' (Y[i]).1.labs.length c')) g (Y.set i ((Y[i]).1, A', c')) ∧ (Y.set i ((Y[i]).1, A', c')).map (·.1) = l ∧ (Y.set i ((Y[i]).1, A', c')).length = n ∧ (∀ p ∈ Y.set i ((Y[i]).1, A', c'), LabAt (w2.setCell ⟨g, i * 4 + 2, none⟩ (.slice A' (Y[i]).1.labs.length c')) g p)) := hid (fun w2 A' c' b2 r2 h2 => by
          refine ⟨(hr.below b2).putLab i hil A' c', ?_, by rw [List.length_set]; exact HYL.out, fun p hp => ?_⟩
          · rw [List.map_set]
            have : (Y.map (·.1)).set i (Y[i]).1 = Y.map (·.1) := by
              have h9 : (Y[i]).1 = (Y.map (·.1))[i]'(by rw [List.length_map]; exact hil) := by simp
              rw [h9]
              exact List.set_getElem_self _
            exact this.trans HY.out
          · refine LabAt.grown ?_ (grown_set _ _ _ _)
            rcases List.mem_or_eq_of_mem_set hp with hp | rfl
            · exact (HLA.out p hp).below b2
            · rcases Nat.eq_zero_or_pos (Y[i]).1.labs.length with h0 | h0
              · exact ⟨0, fun h1 => absurd h1 (by simp only; omega), r2⟩
              · obtain ⟨b, off, hA, hbz⟩ := h2 h0
                exact ⟨b, fun _ => ⟨by omega, off, hA⟩, r2⟩)
        have K : ∀ w2, Below wr.heap.size wr w2 → w2.cell? ⟨g, i * 4 + 2, none⟩ = some (.slice (Y[i]).2.1 (Y[i]).1.labs.length (Y[i]).2.2) ∧ w2.frozen? ⟨g, i * 4 + 2, none⟩ = false := fun w2 h => ⟨(h.cell (p := ⟨g, i * 4 + 2, none⟩) hgz).trans c2, (h.frozen (p := ⟨g, i * 4 + 2, none⟩) hgz).trans f2⟩
        clear c0 c1 c3 f0 f1 f2 f3 hb0 hxz hr HLA HY HYL
        generalize Y[i] = y at *
        clear hil
        obtain ⟨x, Ax, cx⟩ := y
        simp only at *
        go_wp2_with (first
          | (go_at_call 26; refine (hcl _ hrl).mono ?_; rintro e w2 ⟨A2, c2', rfl, b2, r2, h2⟩; obtain ⟨k2, k3⟩ := K _ b2; have HP2 := hid (HP.out _ _ _ b2 r2 h2); have hb2 := (hbw.trans (b2.mono hbw.size)); clear hcl hrl K HP c2 r2 h2)
          | fail)
        go_roundw
        case rel => exact ⟨i + 1, Y.set i (x, A2, c2'), by go_num, by omega, HP2.out.1, hid HP2.out.2.1, hid HP2.out.2.2.1, hid HP2.out.2.2.2, hb2.setCell (show w.heap.size ≤ g by omega) _⟩
        case measure => simp [intOf]; omega
      · have hge : ¬ (i : Int) < (n : Int) := by omega
        have hS := fun w2 (h : RowE w2 g Y) => sortStable_is g cap n Y w2 HYL.out h hn60
        unfold cmpF at hS
        have HF : Hid (∀ w2 M, RowE w2 g M → StableOf ltE Y M → wr.grownBy w2 (some g) → RdE w2 (.slice (some ⟨g, 0, none⟩) n cap) (M.map (·.1)) ∧ StableOf ltT l (M.map (·.1)) ∧ (M.map (·.1)).length = l.length) := hid (fun w2 M r2 s2 g2 => by
          have hml := StableOf.length ltE_ord s2
          have e1 : M.length = n := by rw [hml]; exact HYL.out
          have h1 := RowE.rdE (cap := cap) r2 (by rw [e1]; exact hnc) (fun p hp => (HLA.out p ((s2.mem ltE_ord).1 hp)).grown g2)
          rw [e1] at h1
          have h2 := stable_map s2
          rw [HY.out] at h2
          exact ⟨h1, h2, by rw [List.length_map, e1]; exact HLN.out⟩)
        have hgz := hr.1
        clear HY HYL HLA
        go_wp2_with (first
          | (go_at_call 27; refine (hS _ hr).mono ?_; rintro e w2 ⟨rfl, ⟨M, r2, s2⟩, g2⟩; clear hS hr)
          | fail)
        go_ret
        obtain ⟨k1, k2, k3⟩ := HF.out _ _ r2 s2 g2
        exact ⟨_, _, rfl, k1, k2, k3, hbw.grown g2 hbw.size (fun k hk => by injection hk with hk; omega)⟩
end Go.Proofs.YtcdfjkhjdiojbaaDoor
