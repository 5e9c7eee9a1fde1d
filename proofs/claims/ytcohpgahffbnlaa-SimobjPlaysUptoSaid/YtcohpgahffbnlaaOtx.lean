/-
  Whether two lists of texts are the same. Conditions: the lists are no longer than 2^40.
-/
import Derived.Test.YtcohpgahffbnlaaOli
namespace Go.Icz
open Go.RowKit
theorem KS_cells (l : List ByteArray) : KS.cells l = l.map Value.string := by
  induction l with
  | nil => rfl
  | cons x r ih =>
    have : KS.cells (x :: r) = [.string x] ++ KS.cells r := rfl
    rw [this, ih]
    rfl
theorem ks_at {w : World} {A : Option Addr} {n c : Nat} {l : List ByteArray} (h : KS.Rd w (.slice A n c) l) : 0 < l.length → ∃ b off, A = some ⟨b, off, none⟩ ∧ b < w.heap.size ∧ ∀ j (hj : j < l.length), w.cell? ⟨b, off + j, none⟩ = some (.string l[j]) := by
  intro h0
  obtain ⟨A', c', hv, hc, hr⟩ := h
  injection hv with e1 e2 e3
  subst e1 e2 e3
  obtain ⟨b, off, hA, hlt, hcell⟩ := hr h0
  refine ⟨b, off, hA, hlt, fun j hj => hcell j _ ?_⟩
  rw [KS_cells, List.getElem?_map, List.getElem?_eq_getElem hj]
  rfl
theorem bstr_neq {a b : ByteArray} (h : a ≠ b) : (a.toList == b.toList) = false := by
  rw [ByteArray.toList_eq, ByteArray.toList_eq, beq_eq_false_iff_ne]
  intro e
  exact h (ByteArray.ext (Array.ext' e))
end Go.Icz
namespace Go.Proofs.Ytcohpgahffbnlaa
open Go.RowKit Go.Icz Go.Maps
theorem infoStr : (Try.prog.info? KS.e).map (fun i => (i.zero, i.size, i.bytes)) = some (some (.string ⟨#[]⟩), KS.z, 16) := by kernel_rfl
set_option maxRecDepth 100000
set_option maxHeartbeats 1000000
theorem Texts_is (v u : Value) (l r : List ByteArray) (w : World) (h1 : KS.Rd w v l) (h2 : KS.Rd w u r) (hl : l.length ≤ 1099511627776) (hr : r.length ≤ 1099511627776) :
    Calls Try.prog 23 #[v, u] w fun e w' => e = .returned (.bool (decide (l = r))) ∧ Below w.heap.size w w' := by
  obtain ⟨A, c, rfl, _⟩ := h1.form
  obtain ⟨A2, c2, rfl, _⟩ := h2.form
  by_cases hlr : l.length = r.length
  · have a1 := ks_at h1
    have a2 := ks_at h2
    clear h1 h2
    have hd : ((l.length : Int) == (r.length : Int)) = true := by simp [hlr]
    have hlr' := hid hlr
    go_enter Try.func23, Try.ntmps23
    go_wp2
    go_loopw [5] (fun iv wr => ∃ i : Nat, iv = .int .i64 i ∧ i ≤ r.length ∧ Aside (l.take i = r.take i) ∧ Below w.heap.size w wr) (fun iv _ => r.length - (intOf iv).toNat)
    case atStart => exact ⟨0, rfl, Nat.zero_le _, rfl, Below.refl _ _⟩
    case round =>
      obtain ⟨i, rfl, hi, he, hb⟩ := hrel
      by_cases hlt : i < r.length
      · obtain ⟨b, off, hA, hbl, hcl⟩ := a1 (by rw [hlr'.out]; omega)
        obtain ⟨b2, off2, hA2, hbl2, hcl2⟩ := a2 (by omega)
        have x1 := (hb.cell (p := ⟨b, off + i, none⟩) hbl).trans (hcl i (by rw [hlr'.out]; exact hlt))
        have x2 := (hb.cell (p := ⟨b2, off2 + i, none⟩) hbl2).trans (hcl2 i hlt)
        subst hA hA2
        have hlI : (i : Int) < (r.length : Int) := by omega
        have hget : Hid (l.take (i + 1) = l.take i ++ [l[i]'(by rw [hlr'.out]; exact hlt)] ∧ r.take (i + 1) = r.take i ++ [r[i]]) := hid ⟨(List.take_append_getElem (by rw [hlr'.out]; exact hlt)).symm, (List.take_append_getElem hlt).symm⟩
        have hne : Hid (l[i]'(by rw [hlr'.out]; exact hlt) ≠ r[i] → l ≠ r) := hid (fun h e => h (by subst e; rfl))
        clear hcl hcl2 a1 a2
        generalize l[i]'(by rw [hlr'.out]; exact hlt) = lx at *
        generalize r[i] = rx at *
        by_cases hx : lx = rx
        · subst hx
          go_wp2
          go_quiet (fail)
          go_wp2
          go_roundw
          case rel => exact ⟨i + 1, by go_num, by omega, by show l.take (i + 1) = r.take (i + 1); rw [hget.out.1, hget.out.2, he.out], hb.trans ⟨rfl, rfl, rfl, Nat.le_refl _, fun _ _ => rfl⟩⟩
          case measure => simp [intOf]; omega
        · have hD : Hid (decide (l = r) = false) := hid (decide_eq_false (hne.out hx))
          have hx' : (lx.toList == rx.toList) = false := bstr_neq hx
          go_wp2
          go_quiet (fail)
          go_wp2
          go_ret
          exact ⟨by rw [hD.out]; rfl, hb.trans ⟨rfl, rfl, rfl, Nat.le_refl _, fun _ _ => rfl⟩⟩
      · obtain rfl : i = r.length := by omega
        have hD : Hid (decide (l = r) = true) := hid (decide_eq_true (by have := he.out; rw [List.take_length, ← hlr'.out, List.take_length] at this; exact this))
        go_wp2
        go_ret
        exact ⟨by rw [hD.out]; rfl, hb⟩
  · have hd : ((l.length : Int) == (r.length : Int)) = false := by simp; omega
    have hD : Hid (decide (l = r) = false) := hid (decide_eq_false fun e => hlr (by rw [e]))
    rw [hD.out]
    clear h1 h2
    go_enter Try.func23, Try.ntmps23
    go_wp2
    go_ret
    exact ⟨rfl, Below.refl _ _⟩
end Go.Proofs.Ytcohpgahffbnlaa
