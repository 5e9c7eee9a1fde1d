/-
  The law MergeLimits, walked. Conditions: the arguments can be read; sizes as each theorem names.
-/
import Derived.Test.YtcffagfkpkfgbaaMgopn
import Derived.Laws.Slices
namespace Go.Icz
open Go.RowKit
/-- The answers of bare rows. -/
def ansE (nb : Bool) (L : List (List Ent)) : List Ent := outs kyE [] (strm kyE nb L)
theorem SzR.of_bare {R R' : List SR} (h : SzR R) (e : bare R' = bare R) : SzR R' := by
  have hl : R'.length = R.length := by have := congrArg List.length e; simpa [bare] using this
  have ht : ∀ Q : List SR, totR (Q.map (·.l)) = totR (bare Q) := fun Q => by unfold totR bare; rw [List.map_map, List.map_map]; congr 1; apply List.map_congr_left; intro x _; simp
  exact ⟨by rw [hl]; exact h.1, by rw [ht, e, ← ht]; exact h.2⟩
end Go.Icz
namespace Go.Proofs.Ytcffagfkpkfgbaa
open Go.RowKit Go.Icz
theorem ans_bare (nb : Bool) (R : List SR) : (outs kyV [] (strm kyV nb (rowsOf R))).map (·.1) = ansE nb (bare R) := by
  unfold ansE
  have e : bare R = (rowsOf R).map (List.map (·.1)) := by unfold bare rowsOf; rw [List.map_map]; rfl
  rw [e, strm_map kyV kyE (·.1) (fun _ => rfl), outs_map kyV kyE (·.1) (fun _ => rfl)]
/-- merge.All of rows in memory, by their bare entries. -/
theorem GAll_bare (v : Value) (nb : Bool) (most : Int) (R : List SR) (w : World) (hR : RdR w v R) (hz : SzR R) :
    Calls Try.prog 9 #[v, .bool nb, .int .i64 most] w fun e w' => ∃ u M, e = .returned u ∧ OwE w' w.heap.size u M ∧ M.map (·.1) = takeM most (ansE nb (bare R)) ∧ SzE M ∧ Below w.heap.size w w' := by
  refine (GAll_is v nb most R w hR hz.1 hz.2).mono fun e w' ⟨u, M, h1, h2, h3, h4⟩ => ?_
  rw [ans_bare] at h3
  refine ⟨u, M, h1, h2, h3, ?_, h4⟩
  have hle : (takeM most (ansE nb (bare R))).length ≤ (ansE nb (bare R)).length := by
    unfold takeM
    split
    · exact Nat.le_refl _
    · rw [List.length_take]; omega
  have hS := strm_length kyV nb _ (rowsOf R) rfl
  have hO := outs_le kyV [] (strm kyV nb (rowsOf R))
  have hA : (ansE nb (bare R)).length = (outs kyV [] (strm kyV nb (rowsOf R))).length := by rw [← ans_bare, List.length_map]
  have hml : M.length = (takeM most (ansE nb (bare R))).length := by rw [← h3, List.length_map]
  have htot : totR (rowsOf R) ≤ 1099511627776 := hz.2
  refine ⟨by omega, fun x hx => ?_⟩
  have hx1 : x.1 ∈ takeM most (ansE nb (bare R)) := by rw [← h3]; exact List.mem_map.2 ⟨x, hx, rfl⟩
  have hx2 : x.1 ∈ ansE nb (bare R) := by
    unfold takeM at hx1
    split at hx1
    · exact hx1
    · exact List.mem_of_mem_take hx1
  have mem : ∀ (met : List Int) (S : List Ent) y, y ∈ outs kyE met S → y ∈ S := by
    intro met S
    induction S generalizing met with
    | nil => intro y hy; cases hy
    | cons z S ih =>
      intro y hy
      rw [outs] at hy
      split at hy
      · exact List.mem_cons_of_mem _ (ih _ y hy)
      · rcases List.mem_cons.1 hy with rfl | hy
        · exact List.mem_cons_self ..
        · exact List.mem_cons_of_mem _ (ih _ y hy)
  obtain ⟨r, hr, hxr⟩ := (strm_mem kyE nb _ (bare R) rfl x.1).1 (mem _ _ _ hx2)
  exact (hR.wf r hr x.1 hxr).2
theorem mm_bd (most : Int) : 1 ≤ wrap64 (1 + (wrap64 (most.tmod 30 + 30)).tmod 30) ∧ wrap64 (1 + (wrap64 (most.tmod 30 + 30)).tmod 30) ≤ 30 := by
  have h1 : -30 < most.tmod 30 := by
    have := Int.tmod_lt_of_pos (-most) (b := 30) (by decide)
    rw [Int.neg_tmod] at this
    omega
  have h2 : most.tmod 30 < 30 := Int.tmod_lt_of_pos most (by decide)
  generalize most.tmod 30 = t at *
  have e1 : wrap64 (t + 30) = t + 30 := by unfold wrap64; omega
  rw [e1, Int.tmod_eq_emod_of_nonneg (by omega)]
  have e2 : wrap64 (1 + (t + 30) % 30) = 1 + (t + 30) % 30 := by unfold wrap64; omega
  rw [e2]
  omega
theorem front_rd {w : World} {A : Option Addr} {n c : Nat} {l : List EV} (h : RdE w (.slice A n c) l) (k : Nat) (hk : k ≤ l.length) : RdE w (.slice A k c) (l.take k) := by
  have e : l = l.take k ++ l.drop k := (List.take_append_drop k l).symm
  refine ⟨?_, fun x hx => h.2 x (List.mem_of_mem_take hx)⟩
  have h1 := h.1
  rw [e] at h1
  have h2 := Kd.Rd.front h1
  have hl : (l.take k).length = k := by rw [List.length_take]; omega
  rwa [hl] at h2
end Go.Proofs.Ytcffagfkpkfgbaa
