/-
  A set of numbers in a map; entries as a kind of row. No conditions but those that each theorem names.
  chunk.counted: the entries that may be, of each number the first; chunk.rowsOf. Conditions: those that each theorem names.
  What chunk.pairs hands over of entries. Conditions: those that each theorem names.
  A range over a function whose rounds may write cells, and break. Conditions: those that the theorem names.
  chunk.rowsOf; chunk.streamLength. Conditions: those that each theorem names.
  chunk.streamLength: how many entries, from the first one on, are of its labels. Conditions: those that each theorem names.
-/
import Derived.Test.YtaoeabnpmpimgaaDoorHrr
import Derived.Test.YtaoeabnpmpimgaaDoorRefSrt
import Derived.Test.YtaoeabnpmpimgaaDoorHre
import Derived.Test.YtaoeabnpmpimgaaDoorHsn
import Derived.Test.YtaoeabnpmpimgaaDoorHprs
import Derived.Shelf.Abstract
import Derived.Shelf.RegionOpen
import Derived.WalkKit
import Derived.OwnWalkIn
import Derived.TacticsInMore
import Derived.LoopNIn
import Derived.LoopIn
import Derived.Test.YtaoeabnpmpimgaaDoorLrc
section
namespace Go.Icz
open Go.RowKit
/-- Entries, and where their labels lie, as a kind. -/
def KEnt : Kd EV where
  e := 50
  z := 4
  enc := fun x => [.int .i64 x.1.seq, .int .i64 x.1.time, .slice x.2.1 x.1.labs.length x.2.2, .string ⟨x.1.line.toArray⟩]
  len := fun _ => rfl
  pos := by decide
  one := by
    intro x u hu
    simp only [List.mem_cons, List.not_mem_nil, or_false] at hu
    rcases hu with rfl | rfl | rfl | rfl <;> rfl
theorem kent_cells (X : List EV) : KEnt.cells X = cellsV X := by
  unfold Kd.cells cellsV cellsM
  rw [List.flatMap_map]
  rfl
theorem OwnV.kent {w : World} {B : Nat} {v : Value} {X : List EV} (h : OwnV w B v X) : KEnt.Own w B v X := by
  unfold Kd.Own
  rw [kent_cells]
  exact h
theorem OwnV.ofKent {w : World} {B : Nat} {v : Value} {X : List EV} (h : KEnt.Own w B v X) : OwnV w B v X := by
  unfold Kd.Own at h
  rw [kent_cells] at h
  exact h
/-- The entries that may be, of each number the first. -/
def gdStep (acc : List EV) (x : EV) : List EV := if entR x.1 = true ∧ ¬ x.1.seq ∈ acc.map (·.1.seq) then acc ++ [x] else acc
def gdV (X : List EV) : List EV := X.foldl gdStep []
theorem gdV_snoc (X : List EV) (x : EV) : gdV (X ++ [x]) = gdStep (gdV X) x := by unfold gdV; rw [List.foldl_append]; rfl
theorem gdV_len (X : List EV) : (gdV X).length ≤ X.length := by
  suffices h : ∀ (X acc : List EV), (X.foldl gdStep acc).length ≤ acc.length + X.length by have := h X []; simpa [gdV] using this
  intro X
  induction X with
  | nil => intro acc; simp
  | cons x t ih =>
    intro acc
    rw [List.foldl_cons]
    have := ih (gdStep acc x)
    have h2 : (gdStep acc x).length ≤ acc.length + 1 := by
      unfold gdStep
      split
      · simp
      · omega
    simp only [List.length_cons]
    omega
theorem gdV_mem (X : List EV) : ∀ x ∈ gdV X, x ∈ X ∧ entR x.1 = true := by
  suffices h : ∀ (X acc : List EV), ∀ x ∈ X.foldl gdStep acc, x ∈ acc ∨ (x ∈ X ∧ entR x.1 = true) by
    intro x hx
    rcases h X [] x hx with h1 | h1
    · cases h1
    · exact h1
  intro X
  induction X with
  | nil => intro acc x hx; exact .inl hx
  | cons y t ih =>
    intro acc x hx
    rw [List.foldl_cons] at hx
    rcases ih _ x hx with h1 | ⟨h1, h2⟩
    · unfold gdStep at h1
      split at h1
      · next hc =>
        rcases List.mem_append.1 h1 with h3 | h3
        · exact .inl h3
        · obtain rfl := List.mem_singleton.1 h3
          exact .inr ⟨by simp, hc.1⟩
      · exact .inl h1
    · exact .inr ⟨List.mem_cons_of_mem _ h1, h2⟩
end Go.Icz
namespace Go.Proofs.YtaoeabnpmpimgaaDoor
open Go.RowKit Go.Icz Go.Maps Go.ChangeMaps Go.MapKept
/-- The map in block m is the set of the numbers met. -/
def MSet (w : World) (m : Nat) (met : List Int) : Prop := ∃ D : DataW Unit, w.ownsMap Tryd.prog 3 unitElem m met.length D ∧ ∀ k, Maps.has D (.int .i64 k) = decide (k ∈ met)
theorem MSet.touch {S : Nat → Prop} {w w' : World} {m : Nat} {met : List Int} (h : MSet w m met) (t : Tch S w w') (hS : ¬ S m) : MSet w' m met := by
  obtain ⟨D, h1, h2⟩ := h
  exact ⟨D, ownsMap_touch h1 t hS, h2⟩
theorem MSet.lt {w : World} {m : Nat} {met : List Int} (h : MSet w m met) : m < w.heap.size := by
  obtain ⟨D, h1, _⟩ := h
  exact h1.lt
theorem MSet.noRow {w : World} {m : Nat} {met : List Int} (h : MSet w m met) : ∀ cur t z, w.heap[m]? ≠ some (.cells cur t z) := by
  obtain ⟨D, ⟨es, clock, h1, _⟩, _⟩ := h
  intro cur t z hc
  rw [h1] at hc
  cases hc
theorem MSet.look {w : World} {m : Nat} {met : List Int} (h : MSet w m met) (k : Int) (hk : wfI k) : (Instr.lookup 82 (.map (some m)) (.int .i64 k) true).run Tryd.prog w = .ok (.tuple #[.agg #[], .bool (decide (k ∈ met))]) w := by
  obtain ⟨D, ho, ha⟩ := h
  obtain ⟨u, ps, hrun, hu⟩ := ho.look_ok (int_keyed Tryd.underlying3) Tryd.underlying82 (Tryd.zeroValue80 w) (zd := .agg []) (zp := []) unitElem_mk (keyI hk)
  obtain ⟨rfl, _⟩ := unitElem_inv hu
  rw [hrun, ha]
theorem MSet.store {w : World} {m : Nat} {met : List Int} (h : MSet w m met) (k : Int) (hk : wfI k) (hn : met.length < maxLen) : ∃ w', (Instr.mapUpdate 82 (.map (some m)) (.int .i64 k) (.agg #[])).run Tryd.prog w = .ok () w' ∧ MSet w' m (k :: met) ∧ Tch (· = m) w w' := by
  obtain ⟨D, ho, ha⟩ := h
  obtain ⟨w', hrun, ho', ht⟩ := ho.store (int_keyed Tryd.underlying3) Tryd.underlying82 hn (keyI hk) (val := .agg #[]) (d := .agg []) (ps := []) unitElem_mk
  refine ⟨w', hrun, ⟨_, ho', fun j => ?_⟩, Tch.turned ht⟩
  by_cases hj : j = k
  · subst hj
    rw [Maps.has_put_same ho.isMap (il_key _)]
    simp
  · rw [Maps.has_put_other (il_ne hj), ha]
    simp [hj]
theorem MSet.made (w : World) : MSet (w.alloc (.map #[] 0)) w.heap.size [] := ⟨.map [], World.ownsMap_made .., fun k => by simp; rfl⟩
end Go.Proofs.YtaoeabnpmpimgaaDoor
end
section
namespace Go.Icz
open Go.RowKit
theorem RdV.kent {w : World} {v : Value} {X : List EV} (h : RdV w v X) : KEnt.Rd w v X := by
  obtain ⟨A, c, rfl, hc, hr⟩ := h
  refine ⟨A, c, rfl, hc, fun h0 => ?_⟩
  obtain ⟨b, off, rfl, hb, hcell⟩ := hr h0
  refine ⟨b, off, rfl, hb, ?_⟩
  intro j u hu
  rw [kent_cells] at hu
  have := rdV_cells (ad := ⟨b, off, none⟩) (w := w) (X := X) (c := c) ⟨_, _, rfl, hc, fun _ => ⟨b, off, rfl, hb, hcell⟩⟩ j u hu
  rw [add_flat] at this
  exact this
/-- What counts of an entry as a row. -/
def rowOf (x : EV) : CRow := ⟨x.1.seq, x.1.time, x.1.line⟩
end Go.Icz
namespace Go.Proofs.YtaoeabnpmpimgaaDoor
open Go.RowKit Go.Icz Go.Maps Go.ChangeMaps Go.MapKept
theorem MSet.apart {w : World} {B m : Nat} {v : Value} {l : List EV} {met : List Int} (h : MSet w m met) (o : KEnt.Own w B v l) : v.ownBlock ≠ some m := fun e => by
  rcases o.2 with ⟨rfl, _⟩ | ⟨k, cap, cur, rfl, _, hh, _⟩
  · simp [Value.ownBlock] at e
  · simp only [Value.ownBlock, Option.some.injEq] at e
    subst e
    exact h.noRow _ _ _ hh
set_option maxHeartbeats 4000000 in
set_option maxRecDepth 100000 in
theorem counted_is (v : Value) (X : List EV) (w : World) (hV : RdV w v X) (hL : ∀ p ∈ X, RdL w (.slice p.2.1 p.1.labs.length p.2.2) p.1.labs) (hT : Tabs w) (hz : ∀ p ∈ X, entZ p.1) (hwf : ∀ p ∈ X, wfI p.1.seq) (hlen : X.length * 56 ≤ 140737488351232) :
    Calls Tryd.prog 21 #[v] w fun e w' => ∃ u, e = .returned u ∧ KEnt.Own w' w.heap.size u (gdV X) ∧ Below w.heap.size w w' := by
  obtain ⟨A, c, rfl, hlc, hcell⟩ := hV
  have b0 : Below w.heap.size w (w.alloc (.map #[] 0)) := (Below.refl _ w).alloc (Nat.le_refl _) _
  have ms0 := MSet.made w
  have zz0 : (w.alloc (.map #[] 0)).heap.size = w.heap.size + 1 := by simp
  generalize hW1 : w.alloc (.map #[] 0) = W1 at *
  have hMM := @run_makeMap Tryd.prog
  go_enter Tryd.func21, Tryd.ntmps21
  go_wp2_with fail
  go_loopw [3, 12] (fun ov iv wr => ∃ (i : Nat) (met : List Int), iv = .int .i64 i ∧ i ≤ X.length ∧ KEnt.Own wr w.heap.size ov (gdV (X.take i)) ∧ MSet wr w.heap.size met ∧ Hid (met.length ≤ i ∧ ∀ k, k ∈ met ↔ k ∈ (gdV (X.take i)).map (·.1.seq)) ∧ Below w.heap.size w wr) (fun _ iv _ => X.length - (intOf iv).toNat)
  case atStart => exact ⟨0, [], rfl, by omega, Kd.Own.nil _ _, ms0, hid ⟨by simp, by simp [gdV]⟩, b0⟩
  case round =>
    obtain ⟨i, met, rfl, hi, ho, hm, HM, hbw⟩ := hrel
    by_cases hlt : i < X.length
    · obtain ⟨b, off, rfl, hb, hcl⟩ := hcell (by omega)
      have hcl := hcl i hlt
      have hxm := List.getElem_mem hlt
      have HTK : Hid (gdV (X.take (i + 1)) = gdStep (gdV (X.take i)) X[i]) := hid (by rw [List.take_succ_eq_append_getElem hlt, gdV_snoc])
      have hrd := (hL _ hxm).below hbw
      have hxz := hz _ hxm
      have hxw := hwf _ hxm
      have HLT := hid hlt
      have HGL : Hid ((gdV (X.take i)).length ≤ i) := hid (by have := gdV_len (X.take i); rw [List.length_take] at this; omega)
      generalize gdV (X.take i) = acc at *
      generalize X[i] = x at *
      have c0 := (hbw.cell (p := ⟨b, off + i * 4, none⟩) hb).trans hcl.1
      have c1 := (hbw.cell (p := ⟨b, off + i * 4 + 1, none⟩) hb).trans hcl.2.1
      have c2 := (hbw.cell (p := ⟨b, off + i * 4 + 2, none⟩) hb).trans hcl.2.2.1
      have c3 := (hbw.cell (p := ⟨b, off + i * 4 + 3, none⟩) hb).trans hcl.2.2.2
      have hil : (i : Int) < (X.length : Int) := by omega
      have hzs := hbw.size
      have hN := hid hcell
      clear hcell hcl hb hxm hlt
      obtain ⟨⟨sq, tm, lb, ln⟩, Ax, cx⟩ := x
      simp only at c0 c1 c2 c3 hrd hxw
      have hRt := fun w2 (h : Below w.heap.size w w2) (h2 : RdL w2 (.slice Ax lb.length cx) lb) => ERight_is ⟨sq, tm, lb, ln⟩ Ax cx w2 h2 (hT.below h) hxz
      unfold entV at hRt
      simp only at hRt
      have bA : ∀ o, Below w.heap.size w (wr.alloc o) := fun o => hbw.alloc hzs o
      have bA2 : ∀ o o', Below w.heap.size w ((wr.alloc o).alloc o') := fun o o' => (bA o).alloc (by simp; omega) o'
      by_cases hmem : sq ∈ met
      · have FIN : Hid (gdV (X.take (i + 1)) = acc) := hid (by
          rw [HTK.out]
          unfold gdStep
          rw [if_neg (fun h => h.2 ((HM.out.2 sq).1 hmem))])
        have lk := fun o => MSet.look (w := wr.alloc o) (hm.touch (Tch.alloc (fun _ => False) _ _) (fun h => h)) sq hxw
        rw [decide_eq_true hmem] at lk
        clear hRt HTK hmem hrd hxw hxz
        go_wp2_with fail
        go_roundw
        case rel => exact ⟨i + 1, met, by go_num, by have := HLT.out; omega, by rw [FIN.out]; exact (ho.alloc _).alloc _, (hm.touch (Tch.alloc (fun _ => False) _ _) (fun h => h)).touch (Tch.alloc (fun _ => False) _ _) (fun h => h), hid (by have := HM.out; rw [FIN.out]; exact ⟨by omega, this.2⟩), (bA _).alloc (by simp; omega) _⟩
        case measure => have := HLT.out; simp [intOf]; omega
      · have lk := fun o => MSet.look (w := wr.alloc o) (hm.touch (Tch.alloc (fun _ => False) _ _) (fun h => h)) sq hxw
        rw [decide_eq_false hmem] at lk
        have hbz := hbw.size
        by_cases hr : entR ⟨sq, tm, lb, ln⟩ = true
        · have FIN : Hid (gdV (X.take (i + 1)) = acc ++ [(⟨sq, tm, lb, ln⟩, Ax, cx)]) := hid (by
            rw [HTK.out]
            unfold gdStep
            rw [if_pos ⟨hr, fun h => hmem ((HM.out.2 sq).2 h)⟩])
          rw [hr] at hRt
          have HM2 : Hid ((sq :: met).length ≤ i + 1 ∧ ∀ k, k ∈ sq :: met ↔ k ∈ (acc ++ [((⟨sq, tm, lb, ln⟩ : Ent), Ax, cx)]).map (·.1.seq)) := hid (by
            have := HM.out
            refine ⟨by simp only [List.length_cons]; omega, fun k => ?_⟩
            rw [List.mem_cons, this.2 k, List.map_append, List.mem_append, List.map_singleton, List.mem_singleton]
            exact Or.comm)
          have hml : met.length < maxLen := by have := HM.out.1; have := HLT.out; unfold maxLen; omega
          clear HTK hmem hr
          have HOO := hid (And.intro ho hm)
          clear ho hm
          obtain ⟨WA, hWA⟩ : ∃ WA, WA = (wr.alloc (.cells #[.int .i64 sq, .int .i64 tm, .slice Ax lb.length cx, .string ⟨ln.toArray⟩] 50)).alloc (.cells #[] 80) := ⟨_, rfl⟩
          have zA : WA.heap.size = wr.heap.size + 2 := by rw [hWA]; simp
          have xA : WA.heap[wr.heap.size]? = some (.cells #[.int .i64 sq, .int .i64 tm, .slice Ax lb.length cx, .string ⟨ln.toArray⟩] 50 (0, 0)) := by rw [hWA]; exact heap_alloc2_old wr _ _
          have bWA : Below wr.heap.size wr WA := by rw [hWA]; exact ((Below.refl _ wr).alloc (Nat.le_refl _) _).alloc (by simp) _
          have HWA := hid hWA
          go_wp2_with (first
            | (go_at_call 17; refine (hRt _ (bA2 _ _) ((hrd.alloc _).alloc _)).mono ?_; rintro e w5 ⟨rfl, b5⟩
               rw [← HWA.out] at b5
               have x5 := (b5.block wr.heap.size (by omega)).trans xA
               have o5 := HOO.out.1.below (bWA.trans (b5.mono (by omega)))
               have hm5 := HOO.out.2.touch (Tch.of_below (S := fun _ => False) (bWA.trans (b5.mono (by omega)))) (fun h => h)
               have hne5 := hm5.apart o5
               have hlm := hm5.lt
               obtain ⟨w6, hst, hm6, t6⟩ := hm5.store sq hxw hml
               have x6 : w6.heap[wr.heap.size]? = _ := (t6.block wr.heap.size (by have := b5.size; omega) (by have := HOO.out.2.lt; omega)).trans x5
               have e0 : w5.cell? ⟨wr.heap.size, 0, none⟩ = some (.int .i64 sq) := held_cell x5 rfl
               have f0 : w6.cell? ⟨wr.heap.size, 0, none⟩ = some (.int .i64 sq) := held_cell x6 rfl
               have f1 : w6.cell? ⟨wr.heap.size, 1, none⟩ = some (.int .i64 tm) := held_cell x6 rfl
               have f2 : w6.cell? ⟨wr.heap.size, 2, none⟩ = some (.slice Ax lb.length cx) := held_cell x6 rfl
               have f3 : w6.cell? ⟨wr.heap.size, 3, none⟩ = some (.string ⟨ln.toArray⟩) := held_cell x6 rfl
               have o6 := o5.touch t6 (fun j hj => by rw [hj]; exact hne5)
               have b6 := Tch.below ((hbw.trans (bWA.mono hbz)).trans (b5.mono (by omega))) t6 (fun j hj => by omega) (by have := b5.size; omega)
               clear x5 x6 hm5)
            | (at_builtin; refine Kd.wp_app1 (K := KEnt) rfl (.tmp 33) (.tmp 35) 22 rfl Tryd.underlying22 infoE rfl w.heap.size u3 acc ((⟨sq, tm, lb, ln⟩ : Ent), Ax, cx) rfl o6 rfl rfl rfl (by have := HGL.out; have := HLT.out; unfold maxLen; omega) (by have := HGL.out; have := HLT.out; omega) b6.size ?_; intro v7 w7 o7 b7 g7 n7)
            | fail)
          go_roundw
          case rel =>
            have t7 : Tch (fun k => some k = u3.ownBlock) _ w7 := ⟨g7.os, g7.tape, g7.output, g7.size, fun k hk hn => g7.block k hk hn⟩
            exact ⟨i + 1, sq :: met, by go_num, by have := HLT.out; omega, by rw [FIN.out]; exact o7, (hm6.touch (Tch.alloc (fun _ => False) _ _) (fun h => h)).touch t7 (fun h => hne5 h.symm), hid (by have := HM2.out; rw [FIN.out]; exact this), b6.trans b7⟩
          case measure => have := HLT.out; simp [intOf]; omega
        · have FIN : Hid (gdV (X.take (i + 1)) = acc) := hid (by
            rw [HTK.out]
            unfold gdStep
            rw [if_neg (fun h => hr h.1)])
          have hrf : entR ⟨sq, tm, lb, ln⟩ = false := by simpa using hr
          rw [hrf] at hRt
          clear HTK hmem hr hrf
          have HOO := hid (And.intro ho hm)
          clear ho hm
          go_wp2_with (first
            | (go_at_call 17; refine (hRt _ (bA2 _ _) ((hrd.alloc _).alloc _)).mono ?_; rintro e w5 ⟨rfl, b5⟩)
            | fail)
          go_roundw
          case rel =>
            have b6 := (((Below.refl wr.heap.size wr).alloc (Nat.le_refl _) _).alloc (by simp) _).trans (b5.mono (by simp; omega))
            exact ⟨i + 1, met, by go_num, by have := HLT.out; omega, by rw [FIN.out]; exact HOO.out.1.below b6, HOO.out.2.touch (Tch.of_below (S := fun _ => False) b6) (fun h => h), hid (by have := HM.out; rw [FIN.out]; exact ⟨by omega, this.2⟩), hbw.trans (b6.mono hbz)⟩
          case measure => have := HLT.out; simp [intOf]; omega
    · have hd : X.take i = X := List.take_of_length_le (by omega)
      have hne : ¬ (i : Int) < (X.length : Int) := by omega
      have HO : Hid (KEnt.Own wr w.heap.size u3 (gdV X)) := hid (by rw [hd] at ho; exact ho)
      clear ho hd HM hm
      go_wp2_with fail
      go_ret
      exact ⟨_, rfl, HO.out, hbw⟩
end Go.Proofs.YtaoeabnpmpimgaaDoor
end
section
namespace Go.Icz
open Go.RowKit
/-- An entry as a value. -/
def eV (x : EV) : Value := .agg #[.int .i64 x.1.seq, .int .i64 x.1.time, .slice x.2.1 x.1.labs.length x.2.2, .string ⟨x.1.line.toArray⟩]
end Go.Icz
namespace Go.Proofs.YtaoeabnpmpimgaaDoor
open Go.RowKit Go.Icz Go.Shelf
attribute [local go_sem] Oper.semAt_some
set_option maxRecDepth 100000
set_option maxHeartbeats 4000000
theorem pairsE1_givesS {N : Nat → Prop} (w0 : World) (bx : Nat) (v : Value) (l : List EV) (hb : w0.cell? ⟨bx, 0, none⟩ = some v) (hbl : bx < w0.heap.size) (hr : KEnt.Rd w0 v l) (hlen : l.length ≤ 4611686018427387904) (hSb : N bx) (hSr : 0 < l.length → ∀ b, v.ownBlock = some b → N b) :
    GivesS N Tryd.prog 70 #[.pointer (some ⟨bx, 0, none⟩)] (fun x : EV × EV => #[eV x.1, eV x.2]) (prs l 0) w0 := by
  intro r J Jx W hW hJ hJx hY h0
  refine (callsIn_wide (n := 3)).1 ?_
  refine callsIn_of_wp Tryd.func70 rfl trivial ?_ rfl
  have hWb : W.cell? ⟨bx, 0, none⟩ = some v := (hW.cell (p := ⟨bx, 0, none⟩) hbl).trans hb
  have hWr : KEnt.Rd W v l := hr.below hW
  obtain ⟨A, c, rfl, hc, hcell⟩ := id hWr
  have hHW := hid hWr
  have HJ := hid hJ
  have HLn := hid hlen
  clear hr hb hWr hcell hJ hlen
  simp only [Tryd.ntmps70, List.size_toArray, List.length_cons, List.length_nil, Nat.reduceAdd, Nat.reduceSub, Array.replicate_succ, Array.replicate_zero, List.push_toArray, List.append_toArray, List.nil_append, List.cons_append]
  gi_wp2
  gi_loopw [3] (fun i wr => ∃ (j : Nat) (pre : List (EV × EV)), i = .int .i64 (j : Int) ∧ Hid (1 ≤ j) ∧ Hid (prs l 0 = pre ++ prs l (j - 1)) ∧ J pre wr ∧ KeptS N W.heap.size W wr)
    (fun i _ => l.length + 1 - (intOf i).toNat)
  case atStart => exact ⟨1, [], rfl, hid (Nat.le_refl _), hid rfl, h0, KeptS.refl _ _⟩
  case round =>
    obtain ⟨j, pre, rfl, hj1, hx, hJs, hkp⟩ := hrel
    have dbx := hkp.cell hWb hSb
    by_cases hjl : j < l.length
    · have hji : (j : Int) < (l.length : Int) := by omega
      have h1 := hj1.out
      obtain ⟨k, hk⟩ : ∃ k, j = k + 1 := ⟨j - 1, by omega⟩
      have hkl : k < l.length := by omega
      have hki : (k : Int) < (l.length : Int) := by omega
      have zk : IntKind.i64.wrap ((j : Int) - 1) = (k : Int) := by have := HLn.out; rw [IntKind.wrap_i64]; omega
      have zj : IntKind.i64.wrap ((j : Int) + 1) = (j : Int) + 1 := by have := HLn.out; rw [IntKind.wrap_i64]; omega
      obtain ⟨b, off, c2, hv, hlt, hcs⟩ := (hHW.out.keptS hkp hSr).ats hjl
      injection hv with hv1 _ hv2
      subst hv1
      subst hv2
      have dk0 : wr.cell? ⟨b, off + k * 4, none⟩ = some (.int .i64 l[k].1.seq) := hcs k (by omega) 0 _ (by decide) rfl
      have dk1 : wr.cell? ⟨b, off + k * 4 + 1, none⟩ = some (.int .i64 l[k].1.time) := hcs k (by omega) 1 _ (by decide) rfl
      have dk2 : wr.cell? ⟨b, off + k * 4 + 2, none⟩ = some (.slice l[k].2.1 l[k].1.labs.length l[k].2.2) := hcs k (by omega) 2 _ (by decide) rfl
      have dk3 : wr.cell? ⟨b, off + k * 4 + 3, none⟩ = some (.string ⟨l[k].1.line.toArray⟩) := hcs k (by omega) 3 _ (by decide) rfl
      have dj0 : wr.cell? ⟨b, off + j * 4, none⟩ = some (.int .i64 l[j].1.seq) := hcs j (by omega) 0 _ (by decide) rfl
      have dj1 : wr.cell? ⟨b, off + j * 4 + 1, none⟩ = some (.int .i64 l[j].1.time) := hcs j (by omega) 1 _ (by decide) rfl
      have dj2 : wr.cell? ⟨b, off + j * 4 + 2, none⟩ = some (.slice l[j].2.1 l[j].1.labs.length l[j].2.2) := hcs j (by omega) 2 _ (by decide) rfl
      have dj3 : wr.cell? ⟨b, off + j * 4 + 3, none⟩ = some (.string ⟨l[j].1.line.toArray⟩) := hcs j (by omega) 3 _ (by decide) rfl
      have hxk : prs l 0 = pre ++ (l[k], l[j]) :: prs l j := by
        rw [hx.out, show j - 1 = k by omega, prs_cons l k (by omega)]
        subst hk
        rfl
      have hx2 : Hid (prs l 0 = (pre ++ [(l[k], l[j])]) ++ prs l ((j + 1) - 1)) := hid (by rw [hxk]; simp)
      have HY := hid (fun n => yield_any (m' := 2) (hY pre (l[k], l[j]) _ (wr.drewN n) hxk (HJ.out _ _ _ hJs (stl_drewN _ _ _))))
      have HK := hid (And.intro hjl hkp)
      have HK1 := hid hk
      clear hx hj1 hxk hcs hY hbl hJs hkp hk h1 hW
      gi_wp2
      refine wpIn_region_any (by kernel_rfl) (wpIn_region_reads (m := 10) rfl (by kernel_rfl) ?_)
      simp only [List.take_succ_cons, List.take_zero, List.drop_succ_cons, List.drop_zero]
      repeat (gi_big_quiet_step (fail))
      refine wpQuietIn_nil ?_
      rintro _ ⟨nq, rfl⟩
      obtain ⟨fn, tmps, assign, body, hy, hR⟩ := HY.out nq
      try dsimp only at hy
      unfold eV at hy
      gi_wp2
      refine hR.mono ?_
      rintro e W3 (⟨rfl, hJ3, hk3⟩ | ⟨rfl, hJx3, _⟩)
      · have HK3 := hid hk3
        clear hk3
        gi_wp2
        go_roundw
        case rel => exact ⟨j + 1, pre ++ [(l[k], l[j])], by go_num, hid (by omega), hx2, hJ3, HK.out.2.trans ((keptS_drewN _ _ _).trans (HK3.out.mono (Nat.le_refl _)))⟩
        case measure => have := HK.out.1; simp [intOf]; omega
      · gi_wp2
        refine bodyPost_ret (results_none rfl _ _ _) rfl ?_
        exact ⟨⟨_, rfl⟩, .inr hJx3⟩
    · have hji : ¬ (j : Int) < (l.length : Int) := by omega
      have he := hx.out
      rw [prs_nil l (j - 1) (by omega), List.append_nil] at he
      have HE := hid he
      clear he hx hj1
      gi_wp2
      go_end0
      exact ⟨⟨_, rfl⟩, .inl (by rw [HE.out]; exact hJs)⟩
theorem pairsE_is (A : Option Addr) (n c : Nat) (w : World) : Calls Tryd.prog 49 #[.slice A n c] w fun e w' => e = .returned (.func (.func 70) #[] #[.pointer (some ⟨w.heap.size, 0, none⟩)]) ∧ w' = w.alloc (.cells #[.slice A n c] 22) := by
  go_enter Tryd.func49, Tryd.ntmps49
  go_wp2
  go_ret
  exact ⟨rfl, rfl⟩
end Go.Proofs.YtaoeabnpmpimgaaDoor
end
section
namespace Go.Icz
open Go.RowKit
/-- As wp_rangeFunc; a round makes what G makes, and may break. -/
theorem wp_rangeFuncE {id : Nat} {N : Nat → Prop} {α : Type} {P : Program} {g : Operand} {ps : Array Tmp} {assign body : Code} {Q : Exit → Act → World → Prop} {a : Act} {w : World} {n gf : Nat} {lb : Array Value}
    (hg : a.eval g = .func (.func gf) #[] lb) (eg : ∀ args w, (callFunc gf args).run P w = .ok (.enter gf args) w) {encs : α → Array Value} {xs : List α} (hps : ∀ x, (encs x).size = ps.size) (hseq : GivesS N P gf lb encs xs w)
    (I : List α → World → Prop) (R : World → Prop) (hI : ∀ s A B, I s A → Stl w.heap.size A B → I s B) (hR : ∀ A B, R A → Stl w.heap.size A B → R B)
    (h0 : I [] w) (A : α → Nat → Act) (G : α → World → World) (hG : ∀ x W, Below W.heap.size W (G x W))
    (hassign : ∀ (l : Nat) (x : α) (W : World) (K : Act → World → Prop), x ∈ xs → K (A x W.heap.size) (G x W) →
      assign.wpIn (Fence.wide.inRound l) n P (Exit.then K (fun _ _ _ => False)) { tmps := (ps.zip (encs x)).foldl (fun t (p, v) => t.setIfInBounds p v) a.tmps, defers := [] } W)
    (hbody : ∀ (l : Nat) (pre : List α) (x : α) (rest : List α) (b : Nat) (W0 W : World), xs = pre ++ x :: rest → w.heap.size ≤ b → b = W0.heap.size → W.heap.size = (G x W0).heap.size → (∀ k, b ≤ k → W.heap[k]? = (G x W0).heap[k]?) → I pre W →
      body.wpIn (Fence.wide.inRound l) n P (fun e _ W' => KeptS N w.heap.size W W' ∧ ((e = .normal ∧ I (pre ++ [x]) W') ∨ (e = .exit id ∧ R W'))) (A x b) W)
    (hdone : ∀ D W, w.heap.size ≤ D → I xs W → W.heap[D]? = some (.deferred (some [])) → Q .normal (markD a D) W)
    (hstop : ∀ D W, w.heap.size ≤ D → R W → W.heap[D]? = some (.deferred (some [])) → Q (.exit id) (markD a D) W) :
    (Code.rangeFunc g ps assign body).wpIn Fence.wide n P Q a w := by
  refine wpIn_rangeFunc ?_
  intro fn hfn
  obtain ⟨rec, hrec⟩ : ∃ rec : LoopState → Option Code → Loop, rec = fun st pe => { state := st, pending := pe, fn, tmps := a.tmps, params := ps, assign, body, defers := w.heap.size } := ⟨_, rfl⟩
  obtain ⟨W1, hW1⟩ : ∃ W1, (w.alloc (.deferred (some []))).alloc (.loop (rec .ready none)) = W1 := ⟨_, rfl⟩
  have hs1 : W1.heap.size = w.heap.size + 2 := by rw [← hW1]; simp
  have hL1 : W1.heap[w.heap.size + 1]? = some (.loop (rec .ready none)) := by
    rw [← hW1]
    have := World.alloc_heap_new (w.alloc (.deferred (some []))) (.loop (rec .ready none))
    rwa [World.size_alloc] at this
  have hD1 : W1.heap[w.heap.size]? = some (.deferred (some [])) := by
    rw [← hW1]
    exact (Below.heap_alloc _ _ _ (by simp)).trans (World.alloc_heap_new w _)
  have hb1 : Below w.heap.size w W1 := by
    rw [← hW1]
    exact ((Below.refl _ w).alloc (Nat.le_refl _) _).alloc (by simp) _
  have hI1 : I [] W1 := hI _ _ _ h0 (Stl.of_below hb1)
  refine ⟨w.heap.size + 1, [{ target := .collected w.heap.size, args := #[] }], W1, { target := .fn (.func gf) lb, args := #[.func (.yield (w.heap.size + 1)) #[] #[]] }, W1, gf,
    #[.func (.yield (w.heap.size + 1)) #[] #[]] ++ lb, W1, ?_, ?_, ?_, ?_, fun h => (by cases h), ?_⟩
  · rw [← hW1, hrec]
    exact run_enterLoop_outer _ _ _ _ _
  · simp only [resolve, hg]
    simp [go_sem]
  · intro f' _
    trivial
  · simp [invoke, go_sem, eg]
  · refine callsIn_wide.2 ?_
    have stay : ∀ {A B : World} {k : Nat} {o : Obj}, k < W1.heap.size → Stl W1.heap.size A B → A.heap[k]? = some o → B.heap[k]? = some o := fun hk t h => (t.1.block _ (Array.getElem?_eq_some_iff.1 h).1 (by omega)).trans h
    refine (hseq (w.heap.size + 1)
      (fun pre W => I pre W ∧ W.heap[w.heap.size + 1]? = some (.loop (rec .ready none)) ∧ W.heap[w.heap.size]? = some (.deferred (some [])))
      (fun W => R W ∧ W.heap[w.heap.size + 1]? = some (.loop (rec .done (some (.exit id)))) ∧ W.heap[w.heap.size]? = some (.deferred (some [])))
      W1 hb1
      (fun s A B hs t => ⟨hI s A B hs.1 (t.mono (by omega)), stay (by omega) t hs.2.1, stay (by omega) t hs.2.2⟩)
      (fun A B hs t => ⟨hR A B hs.1 (t.mono (by omega)), stay (by omega) t hs.2.1, stay (by omega) t hs.2.2⟩)
      ?_ ⟨hI1, hL1, hD1⟩).mono ?_
    · rintro pre x rest W hx ⟨hi, hl, hk⟩
      have hlt : w.heap.size + 1 < W.heap.size := (Array.getElem?_eq_some_iff.1 hl).1
      have hy := run_yield (P := P) (args := encs x) hl (by rw [hrec]; exact hps x)
      rw [hrec] at hy
      refine yield_any (m := n) ⟨fn, _, assign, body, hy, roundIn_of_wpIn hfn (hassign _ x W _ (by rw [hx]; simp) ?_)⟩
      have hgs := (hG x W).size
      have hla : (G x W).heap[w.heap.size + 1]? = some (.loop (rec .ready none)) := ((hG x W).block _ hlt).trans hl
      have hka : (G x W).heap[w.heap.size]? = some (.deferred (some [])) := ((hG x W).block _ (by omega)).trans hk
      refine ⟨_, run_beginRound hla (by rw [hrec]), ?_⟩
      have hl2 : ((G x W).putObj (w.heap.size + 1) (.loop { rec .ready none with state := .busy })).heap[w.heap.size + 1]? = some (.loop { rec .ready none with state := .busy }) := World.putObj_heap_same (by omega)
      have hk2 : ((G x W).putObj (w.heap.size + 1) (.loop { rec .ready none with state := .busy })).heap[w.heap.size]? = some (.deferred (some [])) := (World.putObj_heap_other (by omega)).trans hka
      have hb2 : ∀ k, W.heap.size ≤ k → ((G x W).putObj (w.heap.size + 1) (.loop { rec .ready none with state := .busy })).heap[k]? = (G x W).heap[k]? := fun k hk => World.putObj_heap_other (by omega)
      have hb3 : ((G x W).putObj (w.heap.size + 1) (.loop { rec .ready none with state := .busy })).heap.size = (G x W).heap.size := by simp
      have kp : KeptS N W1.heap.size W ((G x W).putObj (w.heap.size + 1) (.loop { rec .ready none with state := .busy })) := (KeptS.of_below (hG x W)).trans (KeptS.putObj _ hla rfl (by omega))
      have hi2 : I pre ((G x W).putObj (w.heap.size + 1) (.loop { rec .ready none with state := .busy })) := hI _ _ _ hi ((Stl.of_below (hG x W)).trans (Stl.putObj _ hla rfl (by omega)))
      refine wpIn_mono (hbody _ pre x rest W.heap.size W _ hx (by omega) rfl hb3 hb2 hi2) ?_
      clear hb2 hb3
      generalize (G x W).putObj (w.heap.size + 1) (.loop { rec .ready none with state := .busy }) = W2 at *
      rintro e a3 W3 ⟨hk3, hp⟩
      have hlt2 : w.heap.size + 1 < W2.heap.size := (Array.getElem?_eq_some_iff.1 hl2).1
      have hl3 := hk3.up _ (by omega) _ rfl hl2
      have hD3 := hk3.up _ (Nat.le_refl _) _ rfl hk2
      have hlt3 : w.heap.size + 1 < W3.heap.size := (Array.getElem?_eq_some_iff.1 hl3).1
      have fin : ∀ (jump : Option Code), (Instr.endRound (w.heap.size + 1) jump).run P W3 = .ok (.bool jump.isNone) (W3.putObj (w.heap.size + 1) (.loop (rec (if jump.isNone then .ready else .done) jump))) := fun jump => by
        have := run_endRound (P := P) jump hl3
        rw [hrec] at this ⊢
        exact this
      have hl4 : ∀ o, (W3.putObj (w.heap.size + 1) o).heap[w.heap.size + 1]? = some o := fun o => World.putObj_heap_same hlt3
      have hD4 : ∀ o, (W3.putObj (w.heap.size + 1) o).heap[w.heap.size]? = some (.deferred (some [])) := fun o => (World.putObj_heap_other (by omega)).trans hD3
      rcases hp with ⟨rfl, hi3⟩ | ⟨rfl, hr3⟩
      · exact ⟨_, _, fin none, .inl ⟨rfl, ⟨hI _ _ _ hi3 (Stl.putObj _ hl3 rfl (by omega)), hl4 _, hD4 _⟩, kp.trans ((hk3.mono (by omega)).trans (KeptS.putObj _ hl3 rfl (by omega)))⟩⟩
      · exact ⟨_, _, fin (some (.exit id)), .inr ⟨rfl, ⟨hR _ _ hr3 (Stl.putObj _ hl3 rfl (by omega)), hl4 _, hD4 _⟩, kp.trans ((hk3.mono (by omega)).trans (KeptS.putObj _ hl3 rfl (by omega)))⟩⟩
    · rintro e W2 ⟨⟨v, rfl⟩, (⟨hi, hl, hk⟩ | ⟨hr, hl, hk⟩)⟩
      · exact ⟨none, _, by have := run_endLoop (P := P) hl (by rw [hrec]; simp); rw [hrec] at this; exact this, hdone _ _ (Nat.le_refl _) (hI _ _ _ hi (Stl.putObj _ hl rfl (by omega))) ((World.putObj_heap_other (by omega)).trans hk)⟩
      · exact ⟨some (.exit id), _, by have := run_endLoop (P := P) hl (by rw [hrec]; simp); rw [hrec] at this; exact this, wpIn_exit (hstop _ _ (Nat.le_refl _) (hR _ _ hr (Stl.putObj _ hl rfl (by omega))) ((World.putObj_heap_other (by omega)).trans hk))⟩
end Go.Icz
end
section
namespace Go.Proofs.YtaoeabnpmpimgaaDoor
open Go.RowKit Go.Icz
set_option maxHeartbeats 4000000 in
set_option maxRecDepth 100000 in
theorem rowsOf_is (v : Value) (X : List EV) (w : World) (hV : RdV w v X) (hlen : X.length * 56 ≤ 140737488351232) :
    Calls Tryd.prog 27 #[v] w fun e w' => ∃ A2 c2, e = .returned (.slice A2 X.length c2) ∧ KRw.Own w' w.heap.size (.slice A2 X.length c2) (X.map rowOf) ∧ Below w.heap.size w w' := by
  obtain ⟨A, c, rfl, hlc, hcell⟩ := hV
  go_enter Tryd.func27, Tryd.ntmps27
  go_wp2_with fail
  go_loopw [3, 8] (fun ov iv wr => ∃ (i : Nat), iv = .int .i64 i ∧ i ≤ X.length ∧ KRw.Own wr w.heap.size ov ((X.take i).map rowOf) ∧ Below w.heap.size w wr) (fun _ iv _ => X.length - (intOf iv).toNat)
  case atStart => exact ⟨0, rfl, by omega, Kd.Own.nil _ _, Below.refl _ _⟩
  case round =>
    obtain ⟨i, rfl, hi, ho, hbw⟩ := hrel
    by_cases hlt : i < X.length
    · obtain ⟨b, off, rfl, hb, hcl⟩ := hcell (by omega)
      have hcl := hcl i hlt
      have HTK : Hid ((X.take (i + 1)).map rowOf = (X.take i).map rowOf ++ [rowOf X[i]]) := hid (by rw [List.take_succ_eq_append_getElem hlt, List.map_append]; rfl)
      have HGL : Hid (((X.take i).map rowOf).length ≤ i) := hid (by rw [List.length_map, List.length_take]; omega)
      have HLT := hid hlt
      generalize (X.take i).map rowOf = acc at *
      generalize X[i] = x at *
      have c0 := (hbw.cell (p := ⟨b, off + i * 4, none⟩) hb).trans hcl.1
      have c1 := (hbw.cell (p := ⟨b, off + i * 4 + 1, none⟩) hb).trans hcl.2.1
      have c2 := (hbw.cell (p := ⟨b, off + i * 4 + 2, none⟩) hb).trans hcl.2.2.1
      have c3 := (hbw.cell (p := ⟨b, off + i * 4 + 3, none⟩) hb).trans hcl.2.2.2
      have hil : (i : Int) < (X.length : Int) := by omega
      have hzs := hbw.size
      have hN := hid hcell
      clear hcell hcl hb hlt
      obtain ⟨⟨sq, tm, lb, ln⟩, Ax, cx⟩ := x
      simp only at c0 c1 c2 c3
      go_wp2_with (first
        | (at_builtin; refine Kd.wp_app1 (K := KRw) rfl (.tmp 12) (.tmp 20) 37 rfl Tryd.underlying37 infoRw rfl w.heap.size u3 acc (⟨sq, tm, ln⟩ : CRow) rfl (ho.alloc _) (n := wr.heap.size + 1) (by simp) rfl rfl (by have := HGL.out; have := HLT.out; unfold maxLen; omega) (by have := HGL.out; have := HLT.out; omega) (by simp; omega) ?_; intro v7 w7 o7 b7 g7 n7)
        | fail)
      go_roundw
      case rel => exact ⟨i + 1, by go_num, by have := HLT.out; omega, by rw [HTK.out]; exact o7, (hbw.alloc hzs _).trans b7⟩
      case measure => have := HLT.out; simp [intOf]; omega
    · have hd : X.take i = X := List.take_of_length_le (by omega)
      have hne : ¬ (i : Int) < (X.length : Int) := by omega
      rw [hd] at ho
      obtain ⟨A2, c2, hv, hc⟩ := ho.rd.form
      rw [List.length_map] at hv
      have HO := hid ho
      have HV := hid hv
      clear ho hd hv
      go_wp2_with fail
      go_ret
      exact ⟨A2, c2, by rw [HV.out]; rfl, by rw [← HV.out]; exact HO.out, hbw⟩
end Go.Proofs.YtaoeabnpmpimgaaDoor
end
section
namespace Go.Icz
open Go.RowKit
/-- Both of a pair are of the same labels. -/
def eqP (p : EV × EV) : Bool := decide (cmpL p.1.1.labs p.2.1.labs = 0)
def strN (X : List EV) : Nat := 1 + ((prs X 0).takeWhile eqP).length
theorem takeWhile_stop {α : Type} {q : α → Bool} {pre : List α} {x : α} {rest : List α} (h : ∀ p ∈ pre, q p = true) (hx : q x = false) : ((pre ++ x :: rest).takeWhile q).length = pre.length := by
  induction pre with
  | nil => simp [hx]
  | cons a t ih =>
    rw [List.cons_append, List.takeWhile_cons, if_pos (h a (by simp)), List.length_cons, ih (fun p hp => h p (by simp [hp])), List.length_cons]
theorem takeWhile_all {α : Type} {q : α → Bool} {l : List α} (h : ∀ p ∈ l, q p = true) : (l.takeWhile q).length = l.length := by
  induction l with
  | nil => rfl
  | cons a t ih => rw [List.takeWhile_cons, if_pos (h a (by simp)), List.length_cons, ih (fun p hp => h p (by simp [hp])), List.length_cons]
theorem prsE_mem {X : List EV} {p : EV × EV} (h : p ∈ prs X 0) : p.1 ∈ X ∧ p.2 ∈ X := by
  unfold prs at h
  have h1 := List.of_mem_zip h
  exact ⟨List.mem_of_mem_drop h1.1, List.mem_of_mem_drop h1.2⟩
end Go.Icz
namespace Go.Proofs.YtaoeabnpmpimgaaDoor
open Go.RowKit Go.Icz Go.Shelf
attribute [local go_sem] Oper.semAt_some
set_option maxHeartbeats 4000000
set_option maxRecDepth 100000
theorem streamLength_is (X : List EV) (A : Option Addr) (c : Nat) (w : World) (hV : RdV w (.slice A X.length c) X) (hL : ∀ p ∈ X, RdL w (.slice p.2.1 p.1.labs.length p.2.2) p.1.labs ∧ p.1.labs.length ≤ 4611686018427387904) (hlen : X.length ≤ 1152921504606846976) :
    Calls Tryd.prog 25 #[.slice A X.length c] w fun e w' => e = .returned (.int .i64 (strN X : Nat)) ∧ Below w.heap.size w w' := by
  obtain ⟨W1, hW1⟩ : ∃ W1, W1 = w.alloc (.cells #[.int .i64 1] 3) := ⟨_, rfl⟩
  have z1 : W1.heap.size = w.heap.size + 1 := by rw [hW1]; simp
  have x1 : W1.heap[w.heap.size]? = some (.cells #[.int .i64 1] 3 (0, 0)) := by rw [hW1]; exact heap_alloc_new w _
  have b1 : Below w.heap.size w W1 := by rw [hW1]; exact (Below.refl _ w).alloc (Nat.le_refl _) _
  have HX := hid (And.intro x1 (And.intro b1 z1))
  have HLR := hid (And.intro hV hL)
  have HN := hid hlen
  have HW1 := hid hW1
  clear hV hL hlen x1 b1 z1 hW1
  refine (callsIn_wide (n := 9)).1 ?_
  refine callsIn_of_wp_marks Tryd.func25 rfl trivial (wpIn_wide.2 ?_) rfl
  simp only [Tryd.ntmps25, List.size_toArray, List.length_cons, List.length_nil, Nat.reduceAdd, Nat.reduceSub, Array.replicate_succ, Array.replicate_zero, List.push_toArray, List.append_toArray, List.nil_append, List.cons_append]
  go_wp2_with (go_at_call 49; refine (pairsE_is _ _ _ _).mono ?_; rintro e w3 ⟨rfl, hw3⟩)
  rw [← hw3]
  rw [← HW1.out] at hw3
  have z1 := HX.out.2.2
  have y1 : w3.heap[w.heap.size]? = some (.cells #[.int .i64 1] 3 (0, 0)) := by rw [hw3]; exact row_alloc HX.out.1 _
  have b13 : Below W1.heap.size W1 w3 := by rw [hw3]; exact (Below.refl _ W1).alloc (Nat.le_refl _) _
  have bw3 : Below w.heap.size w w3 := HX.out.2.1.trans (b13.mono HX.out.2.1.size)
  have z3 : w3.heap.size = w.heap.size + 2 := by rw [hw3]; simp; omega
  have p2 : w3.cell? ⟨w.heap.size + 1, 0, none⟩ = some (.slice A X.length c) := by rw [hw3, ← z1]; exact held_cell (i := 0) (heap_alloc_new W1 _) rfl
  have hrow3 := HLR.out.1.kent.below bw3
  have hseq := pairsE1_givesS (N := fun k => k < w.heap.size ∨ k = w.heap.size + 1) w3 (w.heap.size + 1) (.slice A X.length c) X p2 (by omega) hrow3 (by have := HN.out; omega) (.inr rfl) (fun h0 b hb => by
    obtain ⟨A', c', hv, _, hr⟩ := HLR.out.1
    injection hv with e1 _ _
    obtain ⟨b', off, hA, hlt, _⟩ := hr h0
    rw [e1, hA] at hb
    injection hb with hb
    left
    rw [← hb]
    exact hlt)
  have HB3 := hid (And.intro bw3 z3)
  clear hrow3 p2 b13 hw3 HW1
  obtain ⟨I, hI0⟩ : ∃ I : List (EV × EV) → World → Prop, I = (fun pre Wi => Wi.heap[w.heap.size]? = some (.cells #[.int .i64 ((1 + pre.length : Nat) : Int)] 3 (0, 0)) ∧ (∀ p ∈ pre, eqP p = true) ∧ Below w.heap.size w Wi ∧ w3.heap.size ≤ Wi.heap.size) := ⟨_, rfl⟩
  obtain ⟨R, hR0⟩ : ∃ R : World → Prop, R = (fun Wi => Wi.heap[w.heap.size]? = some (.cells #[.int .i64 ((strN X : Nat) : Int)] 3 (0, 0)) ∧ Below w.heap.size w Wi ∧ w3.heap.size ≤ Wi.heap.size) := ⟨_, rfl⟩
  have HI0 := hid hI0
  have HR0 := hid hR0
  clear hI0 hR0
  refine (wpIn_wide (n := 8)).1 (wp_rangeFuncE (id := 0) (N := fun k => k < w.heap.size ∨ k = w.heap.size + 1) (ps := #[8, 9]) (gf := 70) (lb := #[.pointer (some ⟨w.heap.size + 1, 0, none⟩)]) rfl (enters_of Tryd.func70 (by kernel_rfl) rfl) (fun _ => rfl) hseq
    I R
    (fun s a b h t => by
      rw [HI0.out] at h ⊢
      obtain ⟨h1, h2, h3, h4⟩ := h
      exact ⟨t.2 _ _ _ _ h1, h2, Tch.below h3 t.1 (fun j hj => by omega) h3.size, Nat.le_trans h4 t.1.size⟩)
    (fun a b h t => by
      rw [HR0.out] at h ⊢
      obtain ⟨h1, h3, h4⟩ := h
      exact ⟨t.2 _ _ _ _ h1, Tch.below h3 t.1 (fun j hj => by omega) h3.size, Nat.le_trans h4 t.1.size⟩)
    (by rw [HI0.out]; exact ⟨y1, by simp, bw3, Nat.le_refl _⟩)
    (fun x b => { tmps := #[.slice A X.length c, undef, .int .i64 0, .pointer (some ⟨w.heap.size, 0, none⟩), .pointer (some ⟨b, 0, none⟩), .pointer (some ⟨b + 1, 0, none⟩), .slice A X.length c, .func (.func 70) #[] #[.pointer (some ⟨w.heap.size + 1, 0, none⟩)], eV x.1, eV x.2, undef, undef, undef, undef, undef, undef, undef, undef, undef], defers := [] })
    (fun x W => (W.alloc (.cells #[.int .i64 x.1.1.seq, .int .i64 x.1.1.time, .slice x.1.2.1 x.1.1.labs.length x.1.2.2, .string ⟨x.1.1.line.toArray⟩] 50)).alloc (.cells #[.int .i64 x.2.1.seq, .int .i64 x.2.1.time, .slice x.2.2.1 x.2.1.labs.length x.2.2.2, .string ⟨x.2.1.line.toArray⟩] 50))
    (fun x W => ((Below.refl _ W).alloc (Nat.le_refl _) _).alloc (by rw [World.size_alloc]; omega) _) ?assign ?body ?done ?stop)
  case assign =>
    intro l x Wi K _ hK
    unfold eV at hK ⊢
    gi_wp2
    exact hK
  case body =>
    rintro l pre x rest b W0' Wi hx hb1 hb2 hbs hrows hI
    rw [HI0.out] at hI
    obtain ⟨h1, h2, h3, h4⟩ := hI
    have hmem : x ∈ prs X 0 := by rw [hx]; simp
    have hm := prsE_mem hmem
    have hpl : pre.length ≤ X.length := by
      have e1 := congrArg List.length hx
      unfold prs at e1
      rw [List.length_zip, List.length_append, List.length_drop] at e1
      simp only [List.length_cons] at e1
      omega
    have kk : ∀ wx, Below Wi.heap.size Wi wx → wx.heap[b]? = some (.cells #[.int .i64 x.1.1.seq, .int .i64 x.1.1.time, .slice x.1.2.1 x.1.1.labs.length x.1.2.2, .string ⟨x.1.1.line.toArray⟩] 50 (0, 0)) ∧ wx.heap[b + 1]? = some (.cells #[.int .i64 x.2.1.seq, .int .i64 x.2.1.time, .slice x.2.2.1 x.2.1.labs.length x.2.2.2, .string ⟨x.2.1.line.toArray⟩] 50 (0, 0)) := fun wx bb => by
      subst hb2
      rw [World.size_alloc, World.size_alloc] at hbs
      exact ⟨(bb.block _ (by omega)).trans ((hrows _ (Nat.le_refl _)).trans (heap_alloc2_old _ _ _)), (bb.block _ (by omega)).trans ((hrows _ (by omega)).trans (heap_alloc2_new _ _ _))⟩
    obtain ⟨k1, k2⟩ := kk Wi (Below.refl _ _)
    have c1 : Wi.cell? ⟨b, 2, none⟩ = some (.slice x.1.2.1 x.1.1.labs.length x.1.2.2) := held_cell k1 rfl
    have c2 : Wi.cell? ⟨b + 1, 2, none⟩ = some (.slice x.2.2.1 x.2.1.labs.length x.2.2.2) := held_cell k2 rfl
    have l1 := HLR.out.2 _ hm.1
    have l2 := HLR.out.2 _ hm.2
    have hC := fun wx (bb : Below w.heap.size w wx) => LCompare_is _ _ x.1.1.labs x.2.1.labs wx (l1.1.below bb) (l2.1.below bb) l1.2 l2.2
    have hCi := hC Wi h3
    have HE : Hid (eqP x = decide (cmpL x.1.1.labs x.2.1.labs = 0)) := hid rfl
    have HX1 := hid (And.intro hx h2)
    have HPL := hid hpl
    have H34 := hid (And.intro h1 (And.intro h3 h4))
    generalize cmpL x.1.1.labs x.2.1.labs = r at *
    clear hx hmem hm kk k1 k2 l1 l2 hC hrows hbs hseq hb1 hb2 h1 h2 h3 h4 hpl
    have fn1 : Fence.wide.fn 24 := trivial
    by_cases hr : r = 0
    · have hd : (r != 0) = false := by simp [hr]
      have HEQ : Hid (eqP x = true) := hid (by rw [HE.out]; simp [hr])
      clear hr
      gi_wp2_with (first
        | (gi_at_call 24; refine callsIn_round (hCi.mono ?_); rintro e w5 ⟨rfl, b5⟩
           have x5 := (b5.block _ (row_lt H34.out.1)).trans H34.out.1
           have d0 : w5.cell? ⟨w.heap.size, 0, none⟩ = some (.int .i64 ((1 + pre.length : Nat) : Int)) := held_cell x5 rfl
           have f0 : w5.frozen? ⟨w.heap.size, 0, none⟩ = false := held_frozen x5
           have B5 := H34.out.2.1.trans (b5.mono H34.out.2.1.size)
           have X5 := hid (And.intro x5 (And.intro B5 (Nat.le_trans H34.out.2.2 b5.size)))
           have KB5 := hid b5
           clear hCi x5 b5 B5))
      have HPLo := HPL.out
      have HNo := HN.out
      have T9 : ∀ u, Tch (fun k => k = w.heap.size) w5 (w5.setCell ⟨w.heap.size, 0, none⟩ u) := fun u => Tch.set (fun k => k = w.heap.size) w5 ⟨w.heap.size, 0, none⟩ u rfl
      have KS : ∀ u, KeptS (fun k => k < w.heap.size ∨ k = w.heap.size + 1) (w.heap.size + 2) Wi (w5.setCell ⟨w.heap.size, 0, none⟩ u) := fun u => (KeptS.of_below KB5.out).trans (KeptS.of_tch (T9 u) (fun k hk => by omega) (fun k hk o ho => by
        rw [hk, X5.out.1] at ho
        injection ho with ho
        rw [← ho]
        rfl))
      refine ⟨KS _, ?_⟩
      rw [HI0.out]
      have zN : ((1 + (pre ++ [x]).length : Nat) : Int) = wrap64 (1 + (pre.length : Int) + 1) := by unfold wrap64; rw [List.length_append, List.length_singleton]; omega
      refine ⟨?_, fun p hp => ?_, Tch.below X5.out.2.1 (T9 _) (fun j hj => by omega) X5.out.2.1.size, Nat.le_trans X5.out.2.2 (T9 _).size⟩
      · rw [zN]
        exact row_set X5.out.1 _
      · rcases List.mem_append.1 hp with hp | hp
        · exact HX1.out.2 p hp
        · rw [List.mem_singleton.1 hp]; exact HEQ.out
    · have hd : (r != 0) = true := by simp [hr]
      have HEQ : Hid (eqP x = false) := hid (by rw [HE.out]; simp [hr])
      clear hr
      gi_wp2_with (first
        | (gi_at_call 24; refine callsIn_round (hCi.mono ?_); rintro e w5 ⟨rfl, b5⟩
           have KB5 := hid b5
           clear hCi b5))
      refine ⟨KeptS.of_below KB5.out, ?_⟩
      rw [HR0.out]
      have x5 := (KB5.out.block _ (row_lt H34.out.1)).trans H34.out.1
      have hn : strN X = 1 + pre.length := by unfold strN; rw [HX1.out.1, takeWhile_stop HX1.out.2 HEQ.out]
      rw [hn]
      exact ⟨x5, H34.out.2.1.trans (KB5.out.mono H34.out.2.1.size), Nat.le_trans H34.out.2.2 KB5.out.size⟩
  case done =>
    rintro D Wi hD hI hK
    rw [HI0.out] at hI
    obtain ⟨h1, h2, h3, h4⟩ := hI
    have hn : strN X = 1 + (prs X 0).length := by unfold strN; rw [takeWhile_all h2]
    rw [← hn] at h1
    have f0 : Wi.cell? ⟨w.heap.size, 0, none⟩ = some (.int .i64 ((strN X : Nat) : Int)) := held_cell h1 rfl
    have hbel : Below w.heap.size w (Wi.putObj D (.deferred none)) := h3.trans ((tch_putObj (S := fun k => w.heap.size ≤ k) _ (show w.heap.size ≤ D by omega)).to_below (fun _ h => h) (by have := h3.size; omega))
    have HH := hid hbel
    clear h1 h2 h3 h4 hn hseq hbel
    unfold markD
    go_wp2
    refine ⟨by simp, .inl ⟨_, _, rfl, run_takeDeferred hK, ?_⟩⟩
    exact ⟨_, results_tmp rfl _ _ _, rfl, HH.out⟩
  case stop =>
    rintro D Wi hD hI hK
    rw [HR0.out] at hI
    obtain ⟨h1, h3, h4⟩ := hI
    have f0 : Wi.cell? ⟨w.heap.size, 0, none⟩ = some (.int .i64 ((strN X : Nat) : Int)) := held_cell h1 rfl
    have hbel : Below w.heap.size w (Wi.putObj D (.deferred none)) := h3.trans ((tch_putObj (S := fun k => w.heap.size ≤ k) _ (show w.heap.size ≤ D by omega)).to_below (fun _ h => h) (by have := h3.size; omega))
    have HH := hid hbel
    clear h1 h3 h4 hseq hbel
    unfold markD
    go_wp2
    refine ⟨by simp, .inl ⟨_, _, rfl, run_takeDeferred hK, ?_⟩⟩
    exact ⟨_, results_tmp rfl _ _ _, rfl, HH.out⟩
end Go.Proofs.YtaoeabnpmpimgaaDoor
end
