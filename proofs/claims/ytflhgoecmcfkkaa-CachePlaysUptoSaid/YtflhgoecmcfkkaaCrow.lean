/-
  append onto a slice that lies anywhere in a row of the call's own. Conditions: those that each theorem names.
-/
import Derived.Test.YtflhgoecmcfkkaaGRow
namespace Go.Icz
open Go.RowKit
section
variable {P : Program} (w : World)
theorem run_append_room_at (t ty e : TypeId) (i : TypeInfo) (ht : P.underlying t = some (.slice e)) (hi : P.info? e = some i)
    (g o sLen sCap : Nat) (cur : Array Value) (hg : w.heap[g]? = some (.cells cur e (0, 0)))
    (a : Addr) (m c : Nat) (news : List Value) (hl : news.length = m * i.size) (hnews : ∀ j u, news[j]? = some u → w.cell? (a.add j) = some u) (h1 : ∀ u ∈ news, u.oneCell' = true)
    (hroom : sLen + m ≤ sCap) (hfit : o + sLen * i.size + news.length ≤ cur.size) :
    (Builtin.append_ #[t, t] ty #[.slice (some ⟨g, o, none⟩) sLen sCap, .slice (some a) m c]).run P w =
      .ok (.slice (some ⟨g, o, none⟩) (sLen + m) sCap) (w.setRow g (cur.toList.take (o + sLen * i.size) ++ news ++ cur.toList.drop (o + sLen * i.size + news.length)).toArray) := by
  have hf := run_firstCells_some (P := P) w i.size m a m c news hl hnews
  have hst := run_storeCells_at P g (o + sLen * i.size) e news 0 cur w hg (by simpa using hfit) h1
  simp only [Nat.add_zero] at hst
  simp [Builtin.append_, run_underlying ht, sizeOf, typeInfo, hi, Builtin.lenOf, hroom, hf, add_flat, hst]
end
/-- The slice v lies in a row of the call's own, and holds l. -/
def Kd.Tail {α : Type} (K : Kd α) (w : World) (B : Nat) (v : Value) (l : List α) : Prop :=
  (v = .slice none 0 0 ∧ l = []) ∨ ∃ g o cap cur, v = .slice (some ⟨g, o, none⟩) l.length cap ∧ B ≤ g ∧ w.heap[g]? = some (.cells cur K.e (0, 0)) ∧ l.length ≤ cap ∧ cap ≤ maxLen ∧ o + cap * K.z ≤ cur.size ∧ (cur.toList.drop o).take (l.length * K.z) = K.cells l
namespace Kd
variable {α : Type} {K : Kd α}
theorem Own.tail {w : World} {B : Nat} {v : Value} {l : List α} (h : K.Own w B v l) : K.Tail w B v l := by
  rcases h.2 with ⟨hv, hn⟩ | ⟨g, cap, cur, hv, hg, hh, hnc, hcm, hcs, ht⟩
  · exact .inl ⟨hv, List.eq_nil_of_length_eq_zero hn⟩
  · exact .inr ⟨g, 0, cap, cur, hv, hg, hh, hnc, hcm, by omega, by simpa using ht⟩
theorem Tail.touch {S : Nat → Prop} {w w' : World} {B : Nat} {v : Value} {l : List α} (h : K.Tail w B v l) (hb : ∀ k, k < w.heap.size → ¬ S k → w'.heap[k]? = w.heap[k]?) (hS : ∀ b, v.ownBlock = some b → ¬ S b) : K.Tail w' B v l := by
  rcases h with h | ⟨g, o, cap, cur, hv, hg, hh, r⟩
  · exact .inl h
  · exact .inr ⟨g, o, cap, cur, hv, hg, (hb g (Array.getElem?_eq_some_iff.1 hh).1 (hS g (by rw [hv]; rfl))).trans hh, r⟩
theorem Tail.rd {w : World} {B : Nat} {v : Value} {l : List α} (h : K.Tail w B v l) : K.Rd w v l := by
  rcases h with ⟨rfl, rfl⟩ | ⟨g, o, cap, cur, hv, hg, hh, hnc, hcm, hcs, ht⟩
  · exact Rd.nil w
  · refine ⟨_, cap, hv, hnc, fun _ => ⟨g, o, rfl, (Array.getElem?_eq_some_iff.1 hh).1, fun j u hu => ?_⟩⟩
    rw [cell_of_row _ _ _ _ _ _ hh]
    rw [← ht, List.getElem?_take] at hu
    split at hu
    · rw [List.getElem?_drop] at hu
      simpa using hu
    · cases hu
theorem Tail.lt {w : World} {B : Nat} {v : Value} {l : List α} (h : K.Tail w B v l) : ∀ k, v.ownBlock = some k → B ≤ k ∧ k < w.heap.size ∧ ∃ cur, w.heap[k]? = some (.cells cur K.e (0, 0)) := by
  rcases h with ⟨rfl, rfl⟩ | ⟨g, o, cap, cur, hv, hg, hh, _⟩
  · intro k hk; cases hk
  · intro k hk
    rw [hv] at hk
    injection hk with hk
    subst hk
    exact ⟨hg, (Array.getElem?_eq_some_iff.1 hh).1, cur, hh⟩
/-- The first goes. -/
theorem Tail.rest {w : World} {B : Nat} {b : Addr} {n c : Nat} {x : α} {l : List α} (h : K.Tail w B (.slice (some b) n c) (x :: l)) : K.Tail w B (.slice (some (b.add K.z)) l.length (c - 1)) l := by
  rcases h with ⟨h, _⟩ | ⟨g, o, cap, cur, hv, hg, hh, hnc, hcm, hcs, ht⟩
  · cases h
  · injection hv with h1 h2 h3
    injection h1 with h1
    subst h1 h2 h3
    rw [List.length_cons] at hnc ht
    refine .inr ⟨g, o + K.z, c - 1, cur, by rw [add_flat], hg, hh, by omega, by omega, ?_, ?_⟩
    · have : c * K.z = (c - 1) * K.z + K.z := by rw [← Nat.succ_mul]; congr 1; omega
      omega
    · have hc : K.cells (x :: l) = K.enc x ++ K.cells l := rfl
      rw [hc, Nat.add_mul, Nat.one_mul, Nat.add_comm (l.length * K.z)] at ht
      have h2 := congrArg (List.drop K.z) ht
      rw [List.drop_take, List.drop_drop, Nat.add_sub_cancel_left, List.drop_left' (K.len x)] at h2
      exact h2
/-- One comes at the end. -/
theorem run_append_tail {P : Program} {w : World} (t ty : TypeId) (ht : P.underlying t = some (.slice K.e)) {zv : Value} {by' : Nat} (info : (P.info? K.e).map (fun i => (i.zero, i.size, i.bytes)) = some (some zv, K.z, by')) (hzs : zv.cells.size = K.z)
    (B : Nat) (v : Value) (l : List α) (x : α) (hown : K.Tail w B v l) (a : Addr) (hnews : ∀ j u, (K.enc x)[j]? = some u → w.cell? (a.add j) = some u) (c : Nat)
    (hlen : (l.length + 1) * by' ≤ 140737488355328) (hmax : l.length + 1 ≤ maxLen) (hB : B ≤ w.heap.size) :
    ∃ v' w', (Builtin.append_ #[t, t] ty #[v, .slice (some a) 1 c]).run P w = .ok v' w' ∧ K.Tail w' B v' (l ++ [x]) ∧ w.grownBy w' v.ownBlock ∧ (v'.ownBlock = v.ownBlock ∨ v'.ownBlock = some w.heap.size) := by
  obtain ⟨i, hi, hz, hsize, hby⟩ := info_parts info
  have hcells : K.cells (l ++ [x]) = K.cells l ++ K.enc x := by rw [cells_app]; simp [cells]
  have hl1 : (K.enc x).length = 1 * i.size := by rw [K.len, hsize, Nat.one_mul]
  have hsmall : l.length + 1 ≤ 9223372036854775807 := by unfold maxLen at hmax; omega
  have grown : ∀ (old : Nat), old < l.length + 1 → ∀ (row : Option Nat),
      K.Tail (w.drew.alloc (.cells ((K.cells l).toArray ++ (K.enc x).toArray ++ Builtin.zeroCells zv.cells (grownCap w (l.length + 1) old K.e - (l.length + 1))) K.e)) B
        (.slice (some ⟨w.heap.size, 0, none⟩) (l.length + 1) (grownCap w (l.length + 1) old K.e)) (l ++ [x]) ∧
      w.grownBy (w.drew.alloc (.cells ((K.cells l).toArray ++ (K.enc x).toArray ++ Builtin.zeroCells zv.cells (grownCap w (l.length + 1) old K.e - (l.length + 1))) K.e)) row := by
    intro old ho row
    have hge := grownCap_ge w (l.length + 1) old K.e
    have hcm : grownCap w (l.length + 1) old K.e ≤ maxLen := grownCap_le_maxLen w (l.length + 1) old K.e hmax
    refine ⟨.inr ⟨w.heap.size, 0, _, _, by simp, hB, heap_alloc_new w.drew _, by simpa using hge, hcm, ?_, ?_⟩, ⟨rfl, rfl, rfl, by simp, fun k hk _ => heap_alloc_old w.drew _ hk⟩⟩
    · simp only [Array.size_append, List.size_toArray, size_zeroCells, hzs, cells_len, K.len]
      have : grownCap w (l.length + 1) old K.e * K.z = (l.length + 1) * K.z + (grownCap w (l.length + 1) old K.e - (l.length + 1)) * K.z := by rw [← Nat.add_mul]; congr 1; omega
      rw [this, Nat.add_mul, Nat.one_mul]
      omega
    · have h2 : ((l ++ [x]).length) * K.z = (K.cells l ++ K.enc x).length := by rw [← hcells, cells_len]
      rw [h2, hcells]
      simp only [Array.toList_append, List.append_assoc, List.drop_zero]
      rw [← List.append_assoc]
      exact List.take_left
  rcases hown with ⟨rfl, rfl⟩ | ⟨g, o, cap, cur, rfl, hbg, hg, hnc, hcm, hcs, htake⟩
  · have hr := run_append_nil (P := P) w t ty K.e i zv ht hi hz a 1 c (K.enc x) hl1 hnews (by omega) (by omega) (by rw [hby]; simp only [List.length_nil] at hlen; omega)
    have hgr := grown 0 (by simp) (Value.ownBlock (.slice none 0 0))
    have h0 : K.cells ([] : List α) = [] := rfl
    rw [h0] at hgr
    simp only [List.length_nil, Nat.zero_add, List.nil_append] at hgr ⊢
    exact ⟨_, _, hr, by simpa using hgr.1, by simpa using hgr.2, .inr rfl⟩
  · by_cases hroom : l.length + 1 ≤ cap
    · have hfit : o + l.length * i.size + (K.enc x).length ≤ cur.size := by
        rw [hsize, K.len]
        have := Nat.mul_le_mul_right K.z hroom
        rw [Nat.add_mul, Nat.one_mul] at this
        omega
      have hr := run_append_room_at (P := P) w t ty K.e i ht hi g o l.length cap cur hg a 1 c (K.enc x) hl1 hnews (K.one x) hroom hfit
      refine ⟨_, _, hr, .inr ⟨g, o, cap, _, by simp, hbg, setRow_heap w g cur _ K.e _ hg, by simpa using hroom, hcm, ?_, ?_⟩, ⟨rfl, rfl, rfl, by simp, fun k _ hk => setRow_other w g k _ (fun e => hk (by simp [Value.ownBlock, e]))⟩, .inl rfl⟩
      · rw [hsize, K.len] at hfit ⊢
        simp only [List.size_toArray, List.length_append, List.length_take, List.length_drop, Array.length_toList, K.len]
        omega
      · have hmin : (cur.toList.take (o + l.length * i.size)).length = o + l.length * i.size := by
          rw [List.length_take]
          have : cur.toList.length = cur.size := Array.length_toList
          omega
        have e1 : ((cur.toList.take (o + l.length * i.size) ++ K.enc x ++ cur.toList.drop (o + l.length * i.size + (K.enc x).length)).drop o).take ((l ++ [x]).length * K.z) = ((cur.toList.take (o + l.length * i.size)).drop o ++ K.enc x) := by
          rw [List.append_assoc, List.drop_append_of_le_length (by rw [hmin]; omega), ← List.append_assoc]
          have h3 : (l ++ [x]).length * K.z = ((cur.toList.take (o + l.length * i.size)).drop o ++ K.enc x).length := by
            have h4 : ((cur.toList.take (o + l.length * i.size)).drop o).length = l.length * K.z := by rw [List.length_drop, hmin, Nat.add_sub_cancel_left, hsize]
            have e5 : ((cur.toList.take (o + l.length * i.size)).drop o ++ K.enc x).length = l.length * K.z + K.z := by rw [List.length_append, h4, K.len]
            rw [e5, List.length_append, List.length_singleton, Nat.add_mul, Nat.one_mul]
          rw [h3]
          exact List.take_left
        rw [e1, List.drop_take, Nat.add_sub_cancel_left, hsize, htake, hcells]
    · have holds : ∀ j u, (K.cells l)[j]? = some u → w.cell? ((⟨g, o, none⟩ : Addr).add j) = some u := fun j u hu => by
        rw [add_flat, cell_of_row _ _ _ _ _ _ hg]
        rw [← htake, List.getElem?_take] at hu
        split at hu
        · rw [List.getElem?_drop] at hu
          simpa using hu
        · cases hu
      have hr := run_append_grow (P := P) w t ty K.e i zv ht hi hz ⟨g, o, none⟩ l.length cap (K.cells l) (by rw [cells_len, hsize]) holds a 1 c (K.enc x) hl1 hnews (by omega) (by omega) (growslice_fits (by omega) (by rw [hby]; exact hlen))
      have hgr := grown cap (by omega) (Value.ownBlock (.slice (some ⟨g, o, none⟩) l.length cap))
      exact ⟨_, _, hr, by simpa using hgr.1, hgr.2, .inr rfl⟩
end Kd
end Go.Icz
