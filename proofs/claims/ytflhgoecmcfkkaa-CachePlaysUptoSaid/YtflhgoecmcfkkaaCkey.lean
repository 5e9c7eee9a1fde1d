/-
  What cache's Keys and the law's Texts answer. Conditions: those that each theorem names.
-/
import Derived.Test.YtflhgoecmcfkkaaCop3
import Derived.Test.YtflhgoecmcfkkaaGRow
namespace Go.Icz
/-- Strings as elements. -/
def KS : Kd ByteArray := { e := 9, z := 1, enc := fun k => [.string k], len := fun _ => rfl, pos := by decide, one := fun x u hu => by simp at hu; subst hu; rfl }
theorem KS_cells (l : List ByteArray) : KS.cells l = l.map Value.string := by
  induction l with
  | nil => rfl
  | cons x r ih =>
    have : KS.cells (x :: r) = [.string x] ++ KS.cells r := rfl
    rw [this, ih]
    rfl
theorem str_ne {a b : ByteArray} (h : a ≠ b) : (a.toList == b.toList) = false := beq_eq_false_iff_ne.2 fun e => h (by rw [ByteArray.toList_eq, ByteArray.toList_eq] at e; exact ByteArray.ext (Array.ext' e))
theorem KS.at {w : World} {A : Option Addr} {n c : Nat} {l : List ByteArray} (h : KS.Rd w (.slice A n c) l) : 0 < l.length → ∃ b off, A = some ⟨b, off, none⟩ ∧ b < w.heap.size ∧ ∀ j (hj : j < l.length), w.cell? ⟨b, off + j, none⟩ = some (.string l[j]) := by
  intro h0
  obtain ⟨A', c', hv, hc, hr⟩ := h
  injection hv with e1 e2 e3
  subst e1 e2 e3
  obtain ⟨b, off, hA, hlt, hcell⟩ := hr h0
  refine ⟨b, off, hA, hlt, fun j hj => hcell j _ ?_⟩
  rw [KS_cells, List.getElem?_map, List.getElem?_eq_getElem hj]
  rfl
end Go.Icz
namespace Go.Proofs.Ytflhgoecmcfkkaa
open Go.RowKit Go.Icz Go.Maps
theorem infoStr : (Try.prog.info? 9).map (fun i => (i.zero, i.size, i.bytes)) = some (some (.string ⟨#[]⟩), 1, 16) := by kernel_rfl
set_option maxRecDepth 100000 in
set_option maxHeartbeats 1000000 in
theorem Keys_is {w : World} {B q s m li : Nat} {hi mi : Int} {l : List It} (h : Ca w B q s m li hi mi l) :
    Calls Try.prog 18 #[.pointer (some ⟨q, 0, none⟩)] w fun e w' => ∃ u, e = .returned u ∧ KS.Own w' w.heap.size u (l.map (·.key)) ∧ Below w.heap.size w w' := by
  have hL := looked_yes h.at_
  have c4 : w.cell? ⟨s, 4, none⟩ = some (hdP l nl) := held_cell h.sh.at_ rfl
  have hlen := h.sh.len
  have hlim := h.sh.lim
  have hch := h.sh.ch
  obtain ⟨pv, hpv⟩ : ∃ a, hdP l nl = .pointer a := by cases l <;> exact ⟨_, rfl⟩
  have hpv' := hid hpv
  rw [hpv] at c4
  clear h hpv
  go_enter Try.func18, Try.ntmps18
  go_wp2_with (go_at_call 28; refine hL.mono ?_; rintro e w1 ⟨rfl, rfl⟩)
  go_loopg [3, 4] (l.length + 1) (fun g a b wr => ∃ xs ys, Aside (l = xs ++ ys ∧ g = ys.length + 1) ∧ Aside (KS.Own wr w1.heap.size a (xs.map (·.key))) ∧ b = hdP ys nl ∧ Below w1.heap.size w1 wr)
  case atStart => exact ⟨[], l, ⟨rfl, rfl⟩, Kd.Own.nil _ _, hpv'.out.symm, Below.refl _ _⟩
  case round =>
    obtain ⟨xs, ys, ha, ho, rfl, hb⟩ := hrel
    cases ys with
    | nil =>
      have hx : Aside (xs = l) := by have := ha.out.1; rw [List.append_nil] at this; exact this.symm
      unfold hdP nl
      go_wp2
      go_ret
      rw [← hx.out]
      exact ⟨_, rfl, ho.out, hb⟩
    | cons e r =>
      have he : Chain w1 (lsP nl xs) (e :: r) nl := by
        have h1 := ha.out.1
        rw [h1] at hch
        exact ((chain_app nl xs (e :: r)).1 hch).2
      have hn : Nd wr e (lsP nl xs) (hdP r nl) := (hb.block _ he.1.lt).trans he.1
      have d0 : wr.cell? ⟨e.g, 0, none⟩ = some (.string e.key) := held_cell hn rfl
      obtain ⟨pr, hpr⟩ : ∃ a, hdP r nl = .pointer a := by cases r <;> exact ⟨_, rfl⟩
      have d3 : wr.cell? ⟨e.g, 3, none⟩ = some (hdP r nl) := held_cell hn rfl
      have hg3 := he.1.lt
      rw [hpr] at d3
      have d4 : ∀ w4, Below w1.heap.size w1 w4 → w4.cell? ⟨e.g, 3, none⟩ = some (.pointer pr) := fun w4 b4 => by
        have hn4 : Nd w4 e (lsP nl xs) (hdP r nl) := (b4.block _ he.1.lt).trans he.1
        rw [hpr] at hn4
        exact held_cell hn4 rfl
      have hpr' := hid hpr
      have hl : xs.length + 1 ≤ l.length := by have := congrArg List.length ha.out.1; simp at this; omega
      have hwz : w1.heap.size ≤ wr.heap.size := hb.size
      have ep : hdP (e :: r) nl = .pointer (some ⟨e.g, 0, none⟩) := rfl
      rw [ep]
      clear hn hpr he
      go_wp2_with (at_builtin; refine Kd.wp_app1 (K := KS) rfl (.tmp 17) (.tmp 23) 43 rfl Try.underlying43 infoStr rfl w1.heap.size _ _ e.key rfl ho.out rfl rfl rfl (by simp; unfold maxLen; omega) (by simp; omega) hwz ?_; intro v4 w4 o4 b4 g4 _; have b14 := hb.trans b4; have d3' := d4 w4 b14; clear d3 d4)
      go_roundg (r.length + 1)
      case measure => have := ha.out.2; rw [this]; simp
      case rel => exact ⟨xs ++ [e], r, ⟨by rw [ha.out.1]; simp, rfl⟩, by rw [List.map_append]; exact o4, hpr'.out.symm, b14⟩
set_option maxRecDepth 100000 in
theorem Texts_is (v u : Value) (l r : List ByteArray) (w : World) (h1 : KS.Rd w v l) (h2 : KS.Rd w u r) (hl : l.length ≤ 1099511627776) (hr : r.length ≤ 1099511627776) :
    Calls Try.prog 19 #[v, u] w fun e w' => e = .returned (.bool (decide (l = r))) ∧ Below w.heap.size w w' := by
  obtain ⟨A, c, rfl, _⟩ := h1.form
  obtain ⟨A2, c2, rfl, _⟩ := h2.form
  by_cases hlr : l.length = r.length
  · have a1 := KS.at h1
    have a2 := KS.at h2
    clear h1 h2
    have hd : ((l.length : Int) == (r.length : Int)) = true := by simp [hlr]
    have hlr' := hid hlr
    go_enter Try.func19, Try.ntmps19
    go_wp2
    go_loopw [5] (fun iv wr => ∃ i : Nat, iv = .int .i64 i ∧ i ≤ r.length ∧ Aside (l.take i = r.take i) ∧ Below w.heap.size w wr) (fun iv _ => r.length - (intOf iv).toNat)
    case atStart => exact ⟨0, rfl, Nat.zero_le _, rfl, Below.refl _ _⟩
    case round =>
      obtain ⟨i, rfl, hi, he, hb⟩ := hrel
      by_cases hlt : i < r.length
      · obtain ⟨b, off, hA, hbl, hcl⟩ := a1 (by rw [hlr'.out]; omega)
        obtain ⟨b2, off2, hA2, hbl2, hcl2⟩ := a2 (by omega)
        have x1 := (hb.cell (p := ⟨b, off + i, none⟩) hbl).trans (hcl i (by rw [hlr'.out]; exact hlt))
        have x2 := (hb.cell (p := ⟨b2, off2 + i, none⟩) hbl2).trans (hcl2 i hlt)
        subst hA hA2
        have hlI : (i : Int) < (r.length : Int) := by omega
        have hget : Hid (l.take (i + 1) = l.take i ++ [l[i]'(by rw [hlr'.out]; exact hlt)] ∧ r.take (i + 1) = r.take i ++ [r[i]]) := hid ⟨(List.take_append_getElem (by rw [hlr'.out]; exact hlt)).symm, (List.take_append_getElem hlt).symm⟩
        have hne : Hid (l[i]'(by rw [hlr'.out]; exact hlt) ≠ r[i] → l ≠ r) := hid (fun h e => h (by subst e; rfl))
        clear hcl hcl2 a1 a2
        generalize l[i]'(by rw [hlr'.out]; exact hlt) = lx at *
        generalize r[i] = rx at *
        by_cases hx : lx = rx
        · subst hx
          go_wp2
          go_quiet (fail)
          go_wp2
          go_roundw
          case rel => exact ⟨i + 1, by go_num, by omega, by show l.take (i + 1) = r.take (i + 1); rw [hget.out.1, hget.out.2, he.out], hb.trans ⟨rfl, rfl, rfl, Nat.le_refl _, fun _ _ => rfl⟩⟩
          case measure => simp [intOf]; omega
        · have hD : Hid (decide (l = r) = false) := hid (decide_eq_false (hne.out hx))
          have hx' : (lx.toList == rx.toList) = false := str_ne hx
          go_wp2
          go_quiet (fail)
          go_wp2
          go_ret
          exact ⟨by rw [hD.out]; rfl, hb.trans ⟨rfl, rfl, rfl, Nat.le_refl _, fun _ _ => rfl⟩⟩
      · obtain rfl : i = r.length := by omega
        have hD : Hid (decide (l = r) = true) := hid (decide_eq_true (by have := he.out; rw [List.take_length, ← hlr'.out, List.take_length] at this; exact this))
        go_wp2
        go_ret
        exact ⟨by rw [hD.out]; rfl, hb⟩
  · have hd : ((l.length : Int) == (r.length : Int)) = false := by simp; omega
    have hD : Hid (decide (l = r) = false) := hid (decide_eq_false fun e => hlr (by rw [e]))
    rw [hD.out]
    clear h1 h2
    go_enter Try.func19, Try.ntmps19
    go_wp2
    go_ret
    exact ⟨rfl, Below.refl _ _⟩
end Go.Proofs.Ytflhgoecmcfkkaa
