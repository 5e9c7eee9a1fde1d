/-
  The reference's Delete. Conditions: those that each theorem names.
-/
import Derived.Test.YtcohpgahffbnlaaOr6
import Derived.Deep.DeepCutAuto
namespace Go.Icz
open Go.RowKit
/-- Without the object at a place. -/
def rcut (R : OM) (i : Nat) : OM := R.take i ++ R.drop (i + 1)
end Go.Icz
namespace Go.Proofs.Ytcohpgahffbnlaa
open Go.RowKit Go.Icz Go.Maps Go.ChangeMaps Go.MapKept
set_option maxRecDepth 100000
set_option maxHeartbeats 8000000
variable {w w' : World} {T : Nat → Prop} {r : Nat} {lv cv : Value} {xs ys : List OV} {M : SM} {c : Nat} {L N : OM}
theorem ObR.app (h : ObR w T xs L) (g : ObR w T ys N) : ObR w T (xs ++ ys) (L ++ N) := by
  refine ⟨by rw [List.length_append, List.length_append, h.1, g.1], fun i h1 h2 => ?_⟩
  by_cases hi : i < xs.length
  · rw [List.getElem_append_left hi, List.getElem_append_left (by rw [← h.1]; exact hi)]
    exact h.2 i hi _
  · rw [List.getElem_append_right (by omega), List.getElem_append_right (by rw [← h.1]; omega)]
    have := g.2 (i - xs.length) (by rw [List.length_append] at h1; omega) (by rw [List.length_append] at h2; rw [h.1]; rw [List.length_append] at h1; have := h.1; omega)
    simpa [h.1] using this
theorem ObR.take (h : ObR w T xs L) (n : Nat) : ObR w T (xs.take n) (L.take n) := by
  refine ⟨by rw [List.length_take, List.length_take, h.1], fun i h1 h2 => ?_⟩
  rw [List.getElem_take, List.getElem_take]
  exact h.2 i _ _
theorem ObR.drop (h : ObR w T xs L) (n : Nat) : ObR w T (xs.drop n) (L.drop n) := by
  refine ⟨by rw [List.length_drop, List.length_drop, h.1], fun i h1 h2 => ?_⟩
  rw [List.getElem_drop, List.getElem_drop]
  exact h.2 _ _ _
theorem run_topO {A : Option Addr} {n c hi : Nat} (h2 : hi ≤ c) (wx : World) : (Instr.slice 45 (.slice A n c) none (some (.int .i64 (hi : Int))) none).run Try.prog wx = .ok (sliced A 0 hi c 2) wx := by
  have := run_slice_h (P := Try.prog) (w := wx) 45 A n c Try.underlying45 .i64 (hi : Int) (by omega) (by omega)
  rw [this]
  have hz : (sizeOf (Try.prog.elem 45)).run Try.prog wx = .ok 2 wx := by go_simp
  rw [hz]
  simp [Result.andThen]
theorem run_fromO {A : Option Addr} {n c s : Nat} (h : s ≤ n) (wx : World) : (Instr.slice 45 (.slice A n c) (some (.int .i64 (s : Int))) none none).run Try.prog wx = .ok (sliced A s n c 2) wx := by
  have := run_slice_l (P := Try.prog) (w := wx) 45 A n c Try.underlying45 .i64 (s : Int) (by omega) (by omega)
  rw [this]
  have hz : (sizeOf (Try.prog.elem 45)).run Try.prog wx = .ok 2 wx := by go_simp
  rw [hz]
  simp [Result.andThen]
theorem infoRO : (Try.prog.info? KRO.e).map (fun i => (i.zero, i.size, i.bytes)) = some (some (.agg #[.string ⟨#[]⟩, .slice none 0 0]), KRO.z, 40) := by kernel_rfl
theorem infoRC : (Try.prog.info? KRC.e).map (fun i => (i.zero, i.size, i.bytes)) = some (some (.agg #[.string ⟨#[]⟩, .int .i64 0, .bool false]), KRC.z, 32) := by kernel_rfl
/-- New objects, the store's row with them. -/
theorem Rf.setL {w0 : World} {M' : SM} {v : Value} (h : Rf w0 T r lv cv xs M) (b : Below w0.heap.size w0 w) (hT : ∀ k, w0.heap.size ≤ k → T k) (ov : KRO.Own w w0.heap.size v ys) (ho : ObR w T ys M'.L) (hc : M'.ch = M.ch) (hM : rfR M' lv cv = rfR M lv cv) :
    Rf (w.setCell ⟨r, 4, none⟩ v) T r v cv ys M' := by
  have h1 := h.below b
  have t : Tch (· = r) w (w.setCell ⟨r, 4, none⟩ v) := Tch.set _ _ _ _ rfl
  have hrl := row_lt h.r_
  refine ⟨?_, ov.mono (Nat.zero_le _) |>.touch t (fun j hj hb => ?_), ho.touch t (fun j hj _ cs z e => ?_), ?_, h.tr, fun g hg => hT g (ov.lt g hg).1, h.tc⟩
  · rw [row_set h1.r_]
    have : rfR M' v cv = (rfR M' lv cv).setIfInBounds 4 v := by unfold rfR; rfl
    rw [this, hM]
  · have := (ov.lt j hb).1
    omega
  · subst hj
    exact tag_ne h1.r_ e (by decide) rfl
  · rw [hc]
    refine h1.ch.touch t (fun j hj hb => ?_)
    obtain ⟨cur, hx⟩ := h1.ch.row hb
    subst hj
    exact tag_ne h1.r_ hx (by decide) rfl
/-- One change more. -/
theorem Rf.setC {M' : SM} {v : Value} (h : Rf w T r lv cv xs M) (hT : ∀ k, w.heap.size ≤ k → T k) (g : w.grownBy w' cv.ownBlock) (ov : KRC.Own w' 0 v M'.ch) (hv : ∀ k, v.ownBlock = some k → cv.ownBlock = some k ∨ w.heap.size ≤ k) (hL : M'.L = M.L) (hM : rfR M' lv cv = rfR M lv cv) :
    Rf (w'.setCell ⟨r, 5, none⟩ v) T r lv v xs M' ∧ Tch T w (w'.setCell ⟨r, 5, none⟩ v) := by
  have t1 : Tch (fun k => cv.ownBlock = some k) w w' := Tch.grown g (fun k hk => hk)
  have nr : cv.ownBlock ≠ some r := fun e => by
    obtain ⟨cur, hx⟩ := h.ch.row e
    exact tag_ne h.r_ hx (by decide) rfl
  have r1 := t1.row h.r_ nr
  have t2 : Tch (· = r) w' (w'.setCell ⟨r, 5, none⟩ v) := Tch.set _ _ _ _ rfl
  have o1 : KRO.Own w' 0 lv xs := h.lo.touch t1 (fun j hj hb => by
    obtain ⟨c1, h1⟩ := h.lo.row hb
    obtain ⟨c2, h2⟩ := h.ch.row hj
    exact tag_ne h1 h2 (by decide) rfl)
  have b1 : ObR w' T xs M.L := h.ob.touch t1 (fun j hj _ cs z e => by
    obtain ⟨c2, h2⟩ := h.ch.row hj
    exact tag_ne e h2 (by decide) rfl)
  refine ⟨⟨?_, o1.touch t2 (fun j hj hb => ?_), ?_, ov.touch t2 (fun j hj hb => ?_), h.tr, h.tl, fun k hk => ?_⟩, (t1.mono (fun k hk => h.tc k hk)).trans (t2.mono (fun j hj => by rw [hj]; exact h.tr))⟩
  · rw [row_set r1]
    have : rfR M' lv v = (rfR M' lv cv).setIfInBounds 5 v := by unfold rfR; rfl
    rw [this, hM]
  · obtain ⟨c1, h1⟩ := o1.row hb
    subst hj
    exact tag_ne r1 h1 (by decide) rfl
  · rw [hL]
    exact b1.touch t2 (fun j hj _ cs z e => by subst hj; exact tag_ne r1 e (by decide) rfl)
  · obtain ⟨c1, h1⟩ := ov.row hb
    subst hj
    exact tag_ne r1 h1 (by decide) rfl
  · rcases hv k hk with h1 | h1
    · exact h.tc k h1
    · exact hT k h1
end Go.Proofs.Ytcohpgahffbnlaa
