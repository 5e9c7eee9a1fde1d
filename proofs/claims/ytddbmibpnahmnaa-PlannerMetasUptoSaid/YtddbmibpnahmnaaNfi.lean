/-
  Maps of numbers and of booleans; which lists are fine: the program's and the reference's question. Conditions: the list is no longer than 2^40, its numbers are those that an int holds.
-/
import Derived.Test.YtddbmibpnahmnaaNov
import Derived.Maps.OwnSet
import Derived.Maps.OwnOps
import Derived.Maps.Views
import Derived.BigQuiet
import Derived.BigRegion
import Derived.Deep.QuietTactic
import Derived.Lib.SliceRun
namespace Go.Icz
open Go.RowKit Go.Maps Go.ChangeMaps Go.MapKept
theorem ownsMap_touch {H : Type} {P : Program} {k : TypeId} {R : Value → Option (DataW H × List MemPlace)} {S : Nat → Prop} {w w' : World} {b n : Nat} {D : DataW H} (h : w.ownsMap P k R b n D) (t : Tch S w w') (hS : ¬ S b) : w'.ownsMap P k R b n D := by
  obtain ⟨es, clock, h1, h2, h3, h4⟩ := h
  exact ⟨es, clock, (t.block b (Array.getElem?_eq_some_iff.1 h1).1 hS).trans h1, h2, h3, h4⟩
theorem Tch.turned {w w' : World} {b : Nat} (h : w.mapTurned w' b) : Tch (· = b) w w' := by
  have g := h.grown
  exact ⟨g.os, g.tape, g.output, g.size, fun k hk hn => g.block k hk (fun e => by injection e with e; exact hn e)⟩
def wfI (k : Int) : Prop := (Lit.int .i64 k).wf = true
theorem il_ne {a b : Int} (h : a ≠ b) : Lit.int .i64 a ≠ Lit.int .i64 b := fun e => by injection e with _ e; exact h e
theorem il_key (a : Int) : WideAt.IsKeyLit (Lit.int .i64 a) := trivial
def countM (l : List MV) (i : Nat) : Int → Int := fun k => if k ∈ idsM (l.take i) then 1 else 0
theorem count_next {l : List MV} {i : Nat} (hi : i < l.length) (h : l[i].id ∉ idsM (l.take i)) (j : Int) : (if j = l[i].id then countM l i l[i].id + 1 else countM l i j) = countM l (i + 1) j := by
  unfold countM
  rw [List.take_succ_eq_append_getElem hi, idsM_app]
  by_cases e : j = l[i].id
  · subst e
    have h2 : ¬ l[i].id ∈ List.take i (List.map (fun x => x.id) l) := by rw [← List.map_take]; exact h
    simp [idsM, h2]
  · simp [e, idsM]
theorem Mc.touch {S : Nat → Prop} {w w' : World} {b o : Nat} {x : MV} (h : Mc w b o x) (k : Tch S w w') (hlt : b < w.heap.size) (hn : ¬ S b) : Mc w' b o x :=
  have c := fun i => k.cell (i := i) hlt hn
  ⟨(c _).trans h.c0, (c _).trans h.c1, (c _).trans h.c2, (c _).trans h.c3, (c _).trans h.c4, (c _).trans h.c5, (c _).trans h.c6, (c _).trans h.c7⟩
theorem met_row {K : Kd MV} (hz : K.z = 8) (he : K.enc = encM) {w : World} {A : Option Addr} {n c : Nat} {l : List MV} (h : K.Rd w (.slice A n c) l) (i : Nat) (hi : i < l.length) : ∃ b off, A = some ⟨b, off, none⟩ ∧ b < w.heap.size ∧ ∀ wr, Below w.heap.size w wr → Mc wr b (off + i * 8) l[i] := by
  obtain ⟨b, off, hA, hb, hc⟩ := met_at hz he h hi
  exact ⟨b, off, hA, hb, fun wr hw => hc.below hw hb⟩
end Go.Icz
namespace Go.Proofs.Ytddbmibpnahmnaa
open Go.RowKit Go.Icz Go.Maps Go.ChangeMaps Go.MapKept
set_option maxRecDepth 10000
theorem keyI {k : Int} (hk : wfI k) : keyOf Try.prog 3 (.int .i64 k) = some (.int .i64 k) := keyOf_int_mk Try.underlying3 hk
/-- A map of booleans in block m: what f says; at most n numbers were written. -/
def MBf (w : World) (m n : Nat) (f : Int → Bool) : Prop := ∃ D : DataW Unit, w.ownsMap Try.prog 3 (plainElem Try.prog 4) m n D ∧ ∀ k, D.atKey (.int .i64 k) (.lit (.bool false)) = .lit (.bool (f k))
theorem MBf.touch {S : Nat → Prop} {w w' : World} {m n : Nat} {f : Int → Bool} (h : MBf w m n f) (t : Tch S w w') (hS : ¬ S m) : MBf w' m n f := by
  obtain ⟨D, h1, h2⟩ := h
  exact ⟨D, ownsMap_touch h1 t hS, h2⟩
theorem MBf.lt {w : World} {m n : Nat} {f : Int → Bool} (h : MBf w m n f) : m < w.heap.size := by
  obtain ⟨D, h1, _⟩ := h
  exact h1.lt
theorem MBf.noRow {w : World} {m n : Nat} {f : Int → Bool} (h : MBf w m n f) : ∀ cur t z, w.heap[m]? ≠ some (.cells cur t z) := by
  obtain ⟨D, ⟨es, clock, h1, _⟩, _⟩ := h
  intro cur t z hc
  rw [h1] at hc
  cases hc
theorem MBf.made (w : World) : MBf (w.alloc (.map #[] 0)) w.heap.size 0 (fun _ => false) := ⟨.map [], World.ownsMap_made .., fun k => by simp [DataW.atKey]⟩
/-- A map of numbers in block m: what f says; at most n were written. -/
def MIf (w : World) (m n : Nat) (f : Int → Int) : Prop := ∃ D : DataW Unit, w.ownsMap Try.prog 3 (plainElem Try.prog 3) m n D ∧ ∀ k, D.atKey (.int .i64 k) (.lit (.int .i64 0)) = .lit (.int .i64 (f k))
theorem MIf.touch {S : Nat → Prop} {w w' : World} {m n : Nat} {f : Int → Int} (h : MIf w m n f) (t : Tch S w w') (hS : ¬ S m) : MIf w' m n f := by
  obtain ⟨D, h1, h2⟩ := h
  exact ⟨D, ownsMap_touch h1 t hS, h2⟩
theorem MIf.lt {w : World} {m n : Nat} {f : Int → Int} (h : MIf w m n f) : m < w.heap.size := by
  obtain ⟨D, h1, _⟩ := h
  exact h1.lt
theorem MIf.noRow {w : World} {m n : Nat} {f : Int → Int} (h : MIf w m n f) : ∀ cur t z, w.heap[m]? ≠ some (.cells cur t z) := by
  obtain ⟨D, ⟨es, clock, h1, _⟩, _⟩ := h
  intro cur t z hc
  rw [h1] at hc
  cases hc
theorem MIf.look {w : World} {m n : Nat} {f : Int → Int} (h : MIf w m n f) (k : Int) (hk : wfI k) : (Instr.lookup 55 (.map (some m)) (.int .i64 k) false).run Try.prog w = .ok (.int .i64 (f k)) w := by
  obtain ⟨D, ho, ha⟩ := h
  obtain ⟨v, ps, hrun, hv⟩ := ho.lookup (int_keyed Try.underlying3) Try.underlying55 (Try.zeroValue3 w) (zd := .lit (.int .i64 0)) (zp := []) (plainElem_int Try.underlying3 (by decide)) (keyI hk)
  rw [ha k] at hv
  obtain ⟨a, rfl, e, _⟩ := plainElem_int_inv Try.underlying3 hv
  simp only [Prod.mk.injEq, DataW.lit.injEq, Lit.int.injEq, true_and] at e
  rw [hrun, e.1]
theorem MIf.store {w : World} {m n : Nat} {f : Int → Int} (h : MIf w m n f) (k b : Int) (hk : wfI k) (hb : wfI b) (hn : n < maxLen) : ∃ w', (Instr.mapUpdate 55 (.map (some m)) (.int .i64 k) (.int .i64 b)).run Try.prog w = .ok () w' ∧ MIf w' m (n + 1) (fun j => if j = k then b else f j) ∧ Tch (· = m) w w' := by
  obtain ⟨D, ho, ha⟩ := h
  obtain ⟨w', hrun, ho', ht⟩ := ho.store (int_keyed Try.underlying3) Try.underlying55 hn (keyI hk) (val := .int .i64 b) (d := .lit (.int .i64 b)) (ps := []) (plainElem_int Try.underlying3 hb)
  refine ⟨w', hrun, ⟨_, ho', fun j => ?_⟩, Tch.turned ht⟩
  by_cases hj : j = k
  · subst hj
    rw [Maps.atKey_put_same ho.isMap (il_key _)]
    simp
  · rw [Maps.atKey_put_other (il_ne hj), ha]
    simp [hj]
theorem MIf.made (w : World) : MIf (w.alloc (.map #[] 0)) w.heap.size 0 (fun _ => 0) := ⟨.map [], World.ownsMap_made .., fun k => by simp [DataW.atKey]⟩
theorem wfI_small {k : Int} (h1 : -9223372036854775808 ≤ k) (h2 : k ≤ 9223372036854775807) : wfI k := by
  unfold wfI
  simp [Lit.wf, IntKind.min, IntKind.max, IntKind.signed, IntKind.bits]
  omega
set_option maxRecDepth 100000 in
set_option maxHeartbeats 4000000 in
theorem Fine_is (v : Value) (l : List MV) (w : World) (hR : KMet.Rd w v l) (hlen : l.length ≤ 1099511627776) (hwf : ∀ x ∈ l, wfI x.id) :
    Calls Try.prog 8 #[v] w fun e w' => e = .returned (.bool (fineM l)) ∧ Below w.heap.size w w' := by
  obtain ⟨A, c, rfl, hlc⟩ := hR.form
  have ROW := hid (met_row (K := KMet) rfl rfl hR)
  have hM0 := MIf.made w
  have hmk : ∀ w, (Instr.makeMap 55 none).run Try.prog w = .ok (.map (some w.heap.size)) (w.alloc (.map #[] 0)) := fun _ => rfl
  have hb0 : Below w.heap.size w (w.alloc (.map #[] 0)) := (Below.refl _ w).alloc (Nat.le_refl _) _
  clear hR
  go_enter Try.func8, Try.ntmps8
  go_wp2
  generalize hW1 : w.alloc (.map #[] 0) = W1 at *
  go_loopw [9] (fun iv wr => ∃ i n : Nat, iv = .int .i64 i ∧ i ≤ l.length ∧ n ≤ i ∧ MIf wr w.heap.size n (countM l i) ∧ Hid (FinT (l.take i)) ∧ Below w.heap.size w wr) (fun iv _ => l.length - (intOf iv).toNat)
  case atStart => exact ⟨0, 0, rfl, by omega, by omega, hM0, hid (by simp [FinT, idsM]), hb0⟩
  case round =>
    obtain ⟨i, n, rfl, hi, hni, hM, HF, hbw⟩ := hrel
    by_cases hLt : i < l.length
    · obtain ⟨b, off, hA, hb, hc⟩ := ROW.out i hLt
      subst hA
      obtain ⟨q0, q1, q2, q3, q4, q5, q6, q7⟩ := hc wr hbw
      have hwx := hwf _ (List.getElem_mem hLt)
      have hil : (i : Int) < (l.length : Int) := by omega
      have HL := hid hLt
      have hml : n < maxLen := by unfold maxLen; omega
      have HNO : Hid (rightM l[i] = false ∨ l[i].id ∈ idsM (l.take i) → fineM l = false) := hid (fine_no hLt)
      have HYES : Hid (rightM l[i] = true → l[i].id ∉ idsM (l.take i) → FinT (l.take (i + 1)) ∧ (fun j => if j = l[i].id then countM l i l[i].id + 1 else countM l i j) = countM l (i + 1)) := hid (fun h1 h2 => ⟨(fin_step hLt).2 ⟨HF.out, h1, h2⟩, funext (fun j => count_next hLt h2 j)⟩)
      have hcv : countM l i l[i].id = if l[i].id ∈ idsM (l.take i) then 1 else 0 := rfl
      have hRt := Right_is l[i]
      clear hc ROW HF
      generalize hmem : decide (l[i].id ∈ idsM (l.take i)) = mem at *
      have HMM := hid hmem
      have hcv2 : countM l i l[i].id = if mem = true then 1 else 0 := by rw [hcv, ← hmem]; simp
      clear hcv hmem
      generalize countM l i = f at *
      generalize hxx : l[i] = x at *
      generalize hfx : f x.id = fx at *
      have HFX := hid hcv2
      have hf1 : IntKind.i64.wrap (fx + 1) = fx + 1 := by rw [hcv2, IntKind.wrap_i64]; cases mem <;> simp
      have hwf1 : wfI (fx + 1) := by rw [hcv2]; cases mem <;> exact wfI_small (by decide) (by decide)
      clear hcv2
      have hM1 := hM.touch (Tch.alloc (fun _ => False) wr (.cells #[.int .i64 x.id, .int .i64 x.least, .int .i64 x.most, .int .i64 x.first, .int .i64 x.last, .int .i64 x.rows, .int .i64 x.bytes, .int .i64 x.level] 28)) (fun h => h)
      have lk := hM1.look x.id hwx
      rw [hfx] at lk
      obtain ⟨w6, hst, s6, t6⟩ := hM1.store x.id (fx + 1) hwx hwf1 hml
      have HF2 := hid hfx
      clear hfx
      have hmlt := hM.lt
      have c6 := (Mc.of_row (box_row wr #[.int .i64 x.id, .int .i64 x.least, .int .i64 x.most, .int .i64 x.first, .int .i64 x.last, .int .i64 x.rows, .int .i64 x.bytes, .int .i64 x.level] 28)).touch t6 (by simp) (by show ¬ _ = _; omega)
      obtain ⟨p0, p1, p2, p3, p4, p5, p6, p7⟩ := c6
      rw [Nat.zero_add] at p1 p2 p3 p4 p5 p6 p7
      have b6 : Below w.heap.size w w6 := Tch.below (below_box hbw hbw.size _) t6 (fun j e => by rw [e]; exact Nat.le_refl _) (by simp; have := hbw.size; omega)
      have z6 := t6.size
      rw [World.size_alloc] at z6
      have AFT : ∀ w7, Below w6.heap.size w6 w7 → w7.cell? ⟨wr.heap.size, 0, none⟩ = some (.int .i64 x.id) ∧ (Instr.lookup 55 (.map (some w.heap.size)) (.int .i64 x.id) false).run Try.prog w7 = .ok (.int .i64 (fx + 1)) w7 ∧ MIf w7 w.heap.size (n + 1) (fun j => if j = x.id then fx + 1 else f j) ∧ Below w.heap.size w w7 := fun w7 b7 => by
        have s7 := s6.touch (Tch.of_below b7 (S := fun _ => False)) (fun h => h)
        have lk7 := s7.look x.id hwx
        simp only [if_true] at lk7
        exact ⟨(b7.cell (p := ⟨wr.heap.size, 0, none⟩) (Nat.lt_of_lt_of_le (Nat.lt_succ_self _) z6)).trans p0, lk7, s7, b6.trans (b7.mono b6.size)⟩
      clear hM hM1 s6 hwf
      unfold metaV at hRt
      cases hr : rightM x with
      | false =>
        have HN := hid (HNO.out (.inl hr))
        rw [hr] at hRt
        clear HNO HYES
        go_wp2_with (go_at_call 15; refine (hRt _).mono ?_; rintro e w7 ⟨rfl, b7⟩; obtain ⟨_, _, _, b8⟩ := AFT w7 b7)
        go_ret
        exact ⟨by rw [HN.out]; rfl, b8⟩
      | true =>
        rw [hr] at hRt
        cases mem with
        | true =>
          have HN := hid (HNO.out (.inr (of_decide_eq_true HMM.out)))
          have hg : (1 : Int) < fx + 1 := by rw [HFX.out]; decide
          clear HNO HYES
          go_wp2_with (go_at_call 15; refine (hRt _).mono ?_; rintro e w7 ⟨rfl, b7⟩; obtain ⟨k7, lk7, _, b8⟩ := AFT w7 b7)
          go_ret
          exact ⟨by rw [HN.out]; rfl, b8⟩
        | false =>
          have HN := hid (HYES.out hr (of_decide_eq_false HMM.out))
          have hg : ¬ (1 : Int) < fx + 1 := by rw [HFX.out]; decide
          clear HNO HYES
          go_wp2_with (go_at_call 15; refine (hRt _).mono ?_; rintro e w7 ⟨rfl, b7⟩; obtain ⟨k7, lk7, s7, b8⟩ := AFT w7 b7)
          go_roundw
          case rel => exact ⟨i + 1, n + 1, by go_num, HL.out, by omega, by have := HN.out.2; rw [this] at s7; exact s7, hid HN.out.1, b8⟩
          case measure => have := HL.out; simp [intOf]; omega
    · have HY : Hid (fineM l = true) := hid (fine_yes (by omega) HF.out)
      have hil : ¬ (i : Int) < (l.length : Int) := by omega
      clear HF
      go_wp2
      go_ret
      exact ⟨by rw [HY.out]; rfl, hbw⟩
end Go.Proofs.Ytddbmibpnahmnaa
