/-
  Metas sorted by First, then by ID. Conditions: the list is no longer than 2^40.
-/
import Derived.Test.YtddbmibpnahmnaaNlk
import Derived.Test.YtddbmibpnahmnaaNsh
namespace Go.Icz
open Go.RowKit Go.Lib Go.Sort Go.Proofs
def icmp (a b : Int) : Int := if a < b then -1 else if b < a then 1 else 0
def or2 (x y : Int) : Int := if x ≠ 0 then x else y
def cmpM (x y : MV) : Int := or2 (icmp x.first y.first) (icmp x.id y.id)
theorem cmpM_lt (x y : MV) : cmpM x y < 0 ↔ ltM x y := by
  unfold cmpM or2 icmp ltM
  by_cases h1 : x.first < y.first
  · simp [h1]
  · by_cases h2 : y.first < x.first
    · have h3 : ¬ x.first = y.first := by omega
      simp [h1, h2, h3]
    · have h3 : x.first = y.first := by omega
      by_cases h4 : x.id < y.id
      · simp [h3, h4]
      · by_cases h5 : y.id < x.id
        · simp [h3, h4, h5]
        · simp [h3, h4, h5]
theorem swoM : SWO (ltOf cmpM) := by
  have e : ∀ x y, ltOf cmpM x y = decide (ltM x y) := fun x y => by
    unfold ltOf
    rw [decide_eq_decide]
    exact cmpM_lt x y
  refine ⟨fun x => ?_, fun x y z h1 h2 => ?_, fun x y z h1 h2 => ?_⟩
  · rw [e]
    exact decide_eq_false (by unfold ltM; omega)
  · rw [e] at *
    rw [decide_eq_true_eq] at *
    exact ltM_trans h1 h2
  · rw [e] at *
    rw [decide_eq_false_iff_not] at *
    unfold ltM at *
    omega
/-- The world has drawn, and grown. -/
structure Gw (W w' : World) : Prop where
  ex : ∃ q os, w' = grow (W.drewN q) os
theorem Gw.refl (W : World) : Gw W W := ⟨0, #[], by rw [grow_empty]; rfl⟩
theorem Gw.alloc {W w' : World} (h : Gw W w') (o : Obj) : Gw W (w'.alloc o) := by
  obtain ⟨q, os, rfl⟩ := h.ex
  exact ⟨q, os ++ #[o], by rw [alloc_eq_grow, grow_grow]⟩
theorem Gw.drew {W w' : World} (h : Gw W w') : Gw W w'.drew := by
  obtain ⟨q, os, rfl⟩ := h.ex
  exact ⟨q + 1, os, rfl⟩
theorem Gw.below {W w' : World} (h : Gw W w') : RowKit.Below W.heap.size W w' := by
  obtain ⟨q, os, rfl⟩ := h.ex
  exact ⟨rfl, rfl, rfl, by show W.heap.size ≤ (W.heap ++ os).size; rw [Array.size_append]; omega, fun j hj => by show (W.heap ++ os)[j]? = _; rw [Array.getElem?_append_left hj]⟩
theorem Gw.trans {a b c : World} (h : Gw a b) (k : Gw b c) : Gw a c := by
  obtain ⟨q, os, rfl⟩ := h.ex
  obtain ⟨q', os', rfl⟩ := k.ex
  refine ⟨q + q', os ++ os', ?_⟩
  unfold grow World.drewN
  simp [Array.append_assoc, Nat.add_assoc]
theorem own_holdsM {w : World} {B : Nat} {v : Value} {l : List MV} (h : KMet.Own w B v l) (hv : v ≠ .slice none 0 0) : ∃ g cap, v = .slice (some ⟨g, 0, none⟩) l.length cap ∧ B ≤ g ∧ g < w.heap.size ∧ l.length ≤ cap ∧ HoldsK encM 8 w g 0 l.toArray := by
  rcases h.2 with ⟨hv', _⟩ | ⟨g, cap, cur, hv', hg, hh, hnc, r⟩
  · exact absurd hv' hv
  · refine ⟨g, cap, hv', hg, (Array.getElem?_eq_some_iff.1 hh).1, hnc, fun j hj => ?_⟩
    rw [size_flatK] at hj
    have hj' : j / 8 < l.length := by simp at hj; omega
    have hm : j % 8 < 8 := Nat.mod_lt _ (by decide)
    refine ⟨?_, by simp [World.frozen?, hh]⟩
    rw [get_flatK _ _ _ _ hj]
    have hc := KMet.cells_get l (j / 8) hj' (j % 8) hm
    have hd : l.toArray[j / 8]! = l[j / 8] := by simp [hj']
    rw [hd, ← add_flat]
    refine World.ownsRow.cells h (g := g) (by rw [hv']; rfl) j _ ?_
    have e : j / 8 * 8 + j % 8 = j := by omega
    have hc2 : (KMet.cells l)[j / 8 * 8 + j % 8]? = (encM l[j / 8])[j % 8]? := hc
    rw [e] at hc2
    rw [hc2]
    generalize l[j / 8] = x
    obtain h8 : j % 8 = 0 ∨ j % 8 = 1 ∨ j % 8 = 2 ∨ j % 8 = 3 ∨ j % 8 = 4 ∨ j % 8 = 5 ∨ j % 8 = 6 ∨ j % 8 = 7 := by omega
    rcases h8 with e | e | e | e | e | e | e | e <;> rw [e] <;> rfl
theorem sorted_rdM {w : World} {g cap n : Nat} {os : Array Obj} {l : List MV} {d : Array MV} (hH : HoldsK encM 8 w g 0 l.toArray) (hg : g < w.heap.size) (hs : d.size = l.length) (hc : l.length ≤ cap) :
    KMet.Rd (sortWorldK encM 8 w g 0 n d os) (.slice (some ⟨g, 0, none⟩) l.length cap) d.toList := by
  have h1 : HoldsK encM 8 (sortWorldK encM 8 w g 0 n d os) g 0 d :=
    holdsK_grow encM 8 _ os g 0 d (by rw [size_putRowK]; exact hg) (holdsK_putRowK encM 8 (Sort.ahead w n) g 0 l.toArray d (holdsK_ahead encM 8 w n g 0 _ hH) (by simp [hs]))
  have hsz : g < (sortWorldK encM 8 w g 0 n d os).heap.size := by unfold sortWorldK grow; simp [size_putRowK]; exact Nat.lt_of_lt_of_le hg (Nat.le_add_right _ _)
  have hl : d.toList.length = l.length := by rw [Array.length_toList]; exact hs
  refine ⟨_, cap, by rw [hl], by rw [hl]; exact hc, fun _ => ⟨g, 0, rfl, hsz, fun j u hu => ?_⟩⟩
  have hjl := (List.getElem?_eq_some_iff.1 hu).1
  rw [KMet.cells_len, hl] at hjl
  have hj : j / 8 < d.size := by rw [hs]; exact (Nat.div_lt_iff_lt_mul (by decide)).2 hjl
  have hm : j % 8 < 8 := Nat.mod_lt _ (by decide)
  have hcell := (h1.cell (i := j / 8) (c := j % 8) hj hm).1
  have e : 0 + (j / 8 * 8 + j % 8) = 0 + j := by omega
  have hd : d[j / 8]! = d.toList[j / 8]'(by rw [Array.length_toList]; exact hj) := by rw [getElem!_pos d (j / 8) hj]; rfl
  have hc2 : (KMet.cells d.toList)[j / 8 * 8 + j % 8]? = (encM (d.toList[j / 8]'(by rw [Array.length_toList]; exact hj)))[j % 8]? := KMet.cells_get d.toList (j / 8) (by rw [Array.length_toList]; exact hj) (j % 8) hm
  have e2 : j / 8 * 8 + j % 8 = j := by omega
  rw [e2, hu] at hc2
  rw [hd] at hcell
  generalize d.toList[j / 8]'(by rw [Array.length_toList]; exact hj) = x at hcell hc2
  rw [Nat.zero_add] at *
  have hcell2 : (sortWorldK encM 8 w g 0 n d os).cell? ⟨g, j, none⟩ = some ((encM x)[j % 8]!) := by
    rw [← e2]
    simpa using hcell
  rw [hcell2]
  rw [show (encM x)[j % 8]! = u from ?_]
  rw [getElem!_def, ← hc2]
theorem sorted_belowM {w : World} {g n B : Nat} {os : Array Obj} {d : Array MV} (hg : B ≤ g) (hB : B ≤ w.heap.size) : RowKit.Below B w (sortWorldK encM 8 w g 0 n d os) := by
  refine ⟨rfl, rfl, rfl, ?_, fun k hk => ?_⟩
  · unfold sortWorldK grow
    simp [size_putRowK, Sort.ahead]
  · unfold sortWorldK grow putRowK putRow mapBlock
    simp only []
    rw [Array.getElem?_append_left (by simp [Sort.ahead]; omega)]
    simp only [Array.getElem?_modify, Sort.ahead]
    rw [if_neg (by omega)]
theorem sortsM_of {l : List MV} {d : Array MV} (hp : PermIn 0 l.toArray.size l.toArray d) (hs : SortedIn (ltOf cmpM) 0 l.toArray.size d) : d.toList.Perm l ∧ d.toList.Pairwise (fun x y => ¬ ltM y x) ∧ d.size = l.length := by
  obtain ⟨h1, _, h3⟩ := hp
  have hd : d.size = l.length := by simpa using h1
  rw [Array.extract_eq_self_of_le (by omega), Array.extract_eq_self_of_le (by omega)] at h3
  refine ⟨by simpa using h3, ?_, hd⟩
  rw [List.pairwise_iff_getElem]
  intro i j hi hj hij
  rw [Array.length_toList] at hi hj
  have := hs i j (by omega) hij (by rw [h1] at hj; exact hj)
  rw [getElem!_pos d j hj, getElem!_pos d i hi] at this
  unfold ltOf at this
  rw [decide_eq_false_iff_not, cmpM_lt] at this
  simpa using this
/-- Sorted, and no two of the same ID: in strict order. -/
theorem srt_of {s : List MV} (h : s.Pairwise (fun x y => ¬ ltM y x)) (hn : (idsM s).Nodup) : SrtM s := by
  unfold SrtM
  unfold idsM at hn
  rw [List.nodup_iff_pairwise_ne, List.pairwise_map] at hn
  exact (h.and hn).imp (fun ⟨a, b⟩ => ltM_not a (fun e => b e.symm))
end Go.Icz
