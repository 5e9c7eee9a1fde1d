/-
  The heap of heads in memory: Len, Less, Swap. Conditions: those that each theorem names.
-/
import Derived.Test.YtcffagfkpkfgbaaMgk
import Derived.BigRegion
namespace Go.Icz
open Go.RowKit
/-- A heap's rows: the block q of the heads (or of an Iter), its slice v, the rows l; what the rows hold was there in W0. -/
structure Hp (W0 w : World) (q : Nat) (rs : List Value) (nb : Bool) (v : Value) (l : List HR) : Prop where
  at_ : ∃ t, w.heap[q]? = some (.cells (v :: .bool nb :: rs).toArray t (0, 0)) ∧ t ≠ 58
  own : KRow.Own w W0.heap.size v l
  lo : W0.heap.size ≤ q
  bel : Below W0.heap.size W0 w
  rd : ∀ r ∈ l, r.l ≠ [] ∧ KEnt.Rd W0 (.slice r.A r.l.length r.c) r.l
  len : l.length ≤ 1099511627776
theorem Hp.c0 {W0 w : World} {q : Nat} {rs : List Value} {nb : Bool} {v : Value} {l : List HR} (h : Hp W0 w q rs nb v l) : w.cell? ⟨q, 0, none⟩ = some v := by
  obtain ⟨t, h1, _⟩ := h.at_
  exact held_cell h1 rfl
theorem Hp.c1 {W0 w : World} {q : Nat} {rs : List Value} {nb : Bool} {v : Value} {l : List HR} (h : Hp W0 w q rs nb v l) : w.cell? ⟨q, 1, none⟩ = some (.bool nb) := by
  obtain ⟨t, h1, _⟩ := h.at_
  exact held_cell h1 rfl
theorem Hp.f0 {W0 w : World} {q : Nat} {rs : List Value} {nb : Bool} {v : Value} {l : List HR} (h : Hp W0 w q rs nb v l) (i : Nat) : w.frozen? ⟨q, i, none⟩ = false := by
  obtain ⟨t, h1, _⟩ := h.at_
  exact held_frozen h1
theorem Hp.lt {W0 w : World} {q : Nat} {rs : List Value} {nb : Bool} {v : Value} {l : List HR} (h : Hp W0 w q rs nb v l) : q < w.heap.size := by
  obtain ⟨t, h1, _⟩ := h.at_
  exact row_lt h1
theorem Hp.apart {W0 w : World} {q : Nat} {rs : List Value} {nb : Bool} {v : Value} {l : List HR} (h : Hp W0 w q rs nb v l) : ∀ g, v.ownBlock = some g → g ≠ q := by
  rintro g hg rfl
  obtain ⟨t, h1, h2⟩ := h.at_
  rcases h.own.2 with ⟨rfl, _⟩ | ⟨g', cap, cur, rfl, _, hh, _⟩
  · cases hg
  · injection hg with hg
    have hg : g' = g := hg
    subst hg
    rw [h1] at hh
    injection hh with hh
    injection hh with _ h3 _
    exact h2 h3
theorem Hp.below {W0 w w' : World} {q : Nat} {rs : List Value} {nb : Bool} {v : Value} {l : List HR} (h : Hp W0 w q rs nb v l) (hb : Below w.heap.size w w') : Hp W0 w' q rs nb v l := by
  obtain ⟨t, h1, h2⟩ := h.at_
  exact ⟨⟨t, (hb.block q (row_lt h1)).trans h1, h2⟩, h.own.below hb, h.lo, h.bel.trans (hb.mono h.bel.size), h.rd, h.len⟩
theorem Hp.form {W0 w : World} {q : Nat} {rs : List Value} {nb : Bool} {v : Value} {l : List HR} (h : Hp W0 w q rs nb v l) : ∃ A c, v = .slice A l.length c := by
  obtain ⟨A, c, hv, _⟩ := h.own.rd.form
  exact ⟨A, c, hv⟩
theorem Kd.Own.block {α : Type} {K : Kd α} {w : World} {B : Nat} {v : Value} {l : List α} (h : K.Own w B v l) (hl : 0 < l.length) : ∃ g cap, v = .slice (some ⟨g, 0, none⟩) l.length cap ∧ B ≤ g ∧ l.length ≤ cap ∧ (∀ i, w.frozen? ⟨g, i, none⟩ = false) ∧ ∀ j (hj : j < l.length) i, i < K.z → w.cell? ⟨g, j * K.z + i, none⟩ = (K.enc l[j])[i]? := by
  rcases h.2 with ⟨_, hn⟩ | ⟨g, cap, cur, hv, hg, hh, hnc, r⟩
  · omega
  · refine ⟨g, cap, hv, hg, hnc, fun i => by simp [World.frozen?, hh], fun j hj i hi => ?_⟩
    have e := K.cells_get l j hj i hi
    obtain ⟨u, hu⟩ : ∃ u, (K.enc l[j])[i]? = some u := by
      have hi' : i < (K.enc l[j]).length := by rw [K.len]; exact hi
      exact ⟨_, List.getElem?_eq_getElem hi'⟩
    rw [hu] at e ⊢
    have := World.ownsRow.cells h (g := g) (by rw [hv]; rfl) (j * K.z + i) u e
    rwa [add_flat, Nat.zero_add] at this
/-- A row that is there. -/
theorem Hp.row {W0 w : World} {q g cap n : Nat} {rs : List Value} {nb : Bool} {l : List HR} (h : Hp W0 w q rs nb (.slice (some ⟨g, 0, none⟩) n cap) l) {j : Nat} (hj : j < l.length) :
    w.cell? ⟨g, j * 2, none⟩ = some (.slice l[j].A l[j].l.length l[j].c) ∧ w.cell? ⟨g, j * 2 + 1, none⟩ = some (.int .i64 (l[j].p : Int)) ∧ w.frozen? ⟨g, j * 2, none⟩ = false ∧ w.frozen? ⟨g, j * 2 + 1, none⟩ = false := by
  obtain ⟨g', cap', hv, _, _, hf, hc⟩ := h.own.block (by omega)
  injection hv with h1 h2 h3
  injection h1 with h1
  injection h1 with h1
  subst h1
  exact ⟨hc j hj 0 (by decide), hc j hj 1 (by decide), hf _, hf _⟩
theorem HR.hd {r : HR} (h : r.l ≠ []) : ∃ x t, r.l = x :: t ∧ hdE r.l = x := by
  cases hr : r.l with
  | nil => exact absurd hr h
  | cons x t => exact ⟨x, t, rfl, rfl⟩
/-- The first entry of a row. -/
theorem Hp.head {W0 w : World} {q : Nat} {rs : List Value} {nb : Bool} {v : Value} {l : List HR} (h : Hp W0 w q rs nb v l) {r : HR} (hr : r ∈ l) :
    ∃ b off, r.A = some ⟨b, off, none⟩ ∧ b < W0.heap.size ∧ 0 < r.l.length ∧ ∀ w', Below W0.heap.size W0 w' → w'.cell? ⟨b, off, none⟩ = some (.int .i64 (hdE r.l).1.seq) ∧ w'.cell? ⟨b, off + 1, none⟩ = some (.int .i64 (hdE r.l).1.time) ∧
      w'.cell? ⟨b, off + 2, none⟩ = some (.slice (hdE r.l).2.1 (hdE r.l).1.labs.length (hdE r.l).2.2) ∧ w'.cell? ⟨b, off + 3, none⟩ = some (.string ⟨(hdE r.l).1.line.toArray⟩) := by
  obtain ⟨hne, hrd⟩ := h.rd r hr
  have h0 : 0 < r.l.length := List.length_pos_iff.2 hne
  obtain ⟨b, off, hA, hlt, hc⟩ := hrd.at h0
  have e : ∀ (m : List EV) (hm : 0 < m.length), hdE m = m[0] := by
    intro m hm
    cases m with
    | nil => simp at hm
    | cons x t => rfl
  have e := e r.l h0
  rw [e]
  refine ⟨b, off, hA, hlt, h0, fun w' hb => ?_⟩
  have k := fun i u hi hu => (hb.cell (p := ⟨b, off + (0 * 4 + i), none⟩) hlt).trans (hc i u hi hu)
  simp only [Nat.zero_mul, Nat.zero_add] at k
  exact ⟨k 0 _ (by decide) rfl, k 1 _ (by decide) rfl, k 2 _ (by decide) rfl, k 3 _ (by decide) rfl⟩
end Go.Icz
namespace Go.Proofs.Ytcffagfkpkfgbaa
open Go.RowKit Go.Icz
theorem Len_is {W0 w : World} {q : Nat} {rs : List Value} {nb : Bool} {v : Value} {l : List HR} (h : Hp W0 w q rs nb v l) : Calls Try.prog 22 #[.pointer (some ⟨q, 0, none⟩)] w fun e w' => e = .returned (.int .i64 (l.length : Nat)) ∧ w' = w := by
  obtain ⟨A, c, rfl⟩ := h.form
  have c0 := h.c0
  clear h
  generalize l.length = n at *
  go_enter Try.func22, Try.ntmps22
  go_wp2
  go_ret
  exact ⟨rfl, rfl⟩
end Go.Proofs.Ytcffagfkpkfgbaa
