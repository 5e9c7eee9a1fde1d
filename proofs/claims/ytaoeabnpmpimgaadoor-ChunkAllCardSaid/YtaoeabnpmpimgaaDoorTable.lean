/-
  What a row that lists the tables gives: the tables of package utf8 are in place; lists of labels and of entries that came in, opened. No condition.
-/
import Derived.Test.YtaoeabnpmpimgaaDoorCards
import Derived.Test.YtaoeabnpmpimgaaDoorTie
import Derived.Test.YtaoeabnpmpimgaaDoorEntAll2
import Derived.Deep.DeepHandedRow
import Derived.Deep.SlicePairs
import Derived.Deep.Slices
import Derived.Lib.LaidTab
import Derived.Lib.LaidU8T
import Derived.Lay
import Derived.SevenTiedAt
namespace Go.Proofs.YtaoeabnpmpimgaaDoor
open Go.ChangeShapes Go.WideShapes Go.ChangeAt Go.RowKit Go.Icz
theorem own : ownKnob Tryd.prog.godebug = none := by kernel_rfl
theorem laidOut : laidOutB Tryd.prog = true := by kernel_rfl
theorem cellsLab : Tryd.prog.cellsOf 65 = 2 := by kernel_rfl
theorem cellsStr : Tryd.prog.cellsOf 9 = 1 := by kernel_rfl
theorem cellsInt : Tryd.prog.cellsOf 3 = 1 := by kernel_rfl
theorem cellsLabs : Tryd.prog.cellsOf 32 = 1 := by kernel_rfl
theorem cells5 : Tryd.prog.cellsOf 5 = 1 := by kernel_rfl
theorem cellsEnt : Tryd.prog.cellsOf 50 = 4 := by kernel_rfl
theorem bytesLab : Tryd.prog.bytesOf 65 = 32 := by kernel_rfl
theorem bytes5 : Tryd.prog.bytesOf 5 = 1 := by kernel_rfl
theorem bytesEnt : Tryd.prog.bytesOf 50 = 56 := by kernel_rfl
theorem first_eq : Rows.laid_unicode_utf8_first = Go.Lib.firstData := by kernel_rfl
theorem accept_eq : Rows.laid_unicode_utf8_acceptRanges (H := Unit) = Go.Lib.acceptData := by kernel_rfl
theorem x8 : Go.Proofs.U8Extra Tryd.prog Tryd.lays196_ren := by constructor <;> kernel_rfl
theorem tabs_of {laid : List (String × DataW Unit)} {W : World} (h : laidMet Tryd.prog laid W) (h1 : ("unicode/utf8.first", Rows.laid_unicode_utf8_first) ∈ laid) (h2 : ("unicode/utf8.acceptRanges", Rows.laid_unicode_utf8_acceptRanges) ∈ laid) : Tabs W :=
  ⟨Go.Proofs.utf8Tabs_of_readsT (Go.Proofs.U8Types.of196 Tryd.lays196) x8 (first_eq ▸ Lib.laidMet.reads h h1) (accept_eq ▸ Lib.laidMet.reads h h2)⟩
/-- A list of labels that came in, opened. -/
theorem open_labs {H : Type} {enc : TypeId × Value → H} {W : World} {a : Option Addr} {len cap : Nat} {d : DataW H} {p : List MemPlace} (h : DataW.Trod enc Tryd.prog W 0 (fun _ => true) true 32 (.slice a len cap) d p) :
    ∃ l : List Lab, l.length = len ∧ RdL W (.slice a len cap) l ∧ (∀ x ∈ l, x.1.length ≤ maxLen ∧ x.2.length ≤ maxLen) ∧ ((d = .nil ∧ l = []) ∨ ∃ el sp, d = .slice el sp ∧ el = l.map (fun x => .agg [.lit (.string x.1), .lit (.string x.2)]) ∧ el.length + sp.length = cap ∧ len ≤ cap) := by
  obtain ⟨fuel, hf⟩ := h
  rcases Go.Deep.open_slice_pairs Tryd.underlying32 Tryd.underlying65 cellsLab rfl rfl cellsStr cellsStr hf with ⟨hcs, hx⟩ | ⟨x, l, c, m, n, V0, V1, D0, D1, P0, P1, hcs, _, hl, hm, hmm, hx, hall⟩
  · simp [Value.cells] at hcs
    obtain ⟨rfl, rfl, rfl⟩ := hcs
    simp only [Prod.mk.injEq] at hx
    exact ⟨[], rfl, RdL.nil W, by simp, .inl ⟨hx.1, rfl⟩⟩
  · simp [Value.cells] at hcs
    obtain ⟨rfl, rfl, rfl⟩ := hcs
    simp only [if_true] at hmm
    subst hmm
    have each : ∀ i, i < m → ∃ s : B8 × B8, V0 i = .string ⟨s.1.toArray⟩ ∧ V1 i = .string ⟨s.2.toArray⟩ ∧ D0 i = .lit (.string s.1) ∧ D1 i = .lit (.string s.2) ∧ s.1.length ≤ maxLen ∧ s.2.length ≤ maxLen := by
      intro i hi
      obtain ⟨_, _, h0, h1⟩ := hall i hi
      obtain ⟨s0, e0, f0, g0⟩ := DataW.trod_string Tryd.underlying9 h0
      obtain ⟨s1, e1, f1, g1⟩ := DataW.trod_string Tryd.underlying9 h1
      simp only [List.cons.injEq, and_true] at e0 e1
      simp only [Prod.mk.injEq] at f0 f1
      refine ⟨(s0.data.toList, s1.data.toList), by rw [e0], by rw [e1], f0.1, f1.1, ?_, ?_⟩
      · rw [Array.length_toList]; exact g0
      · rw [Array.length_toList]; exact g1
    obtain ⟨S, hS⟩ := Go.Deep.choose_lt each
    have hlen : ((List.range len).map S).length = len := by simp
    refine ⟨(List.range len).map S, hlen, ?_, ?_, .inr ⟨_, _, (Prod.mk.inj hx).1, ?_, ?_, hl⟩⟩
    · refine ⟨some x, m, by rw [hlen], by rw [hlen]; exact hl, fun h0 => ?_⟩
      rw [hlen] at h0
      obtain ⟨b, off, spot⟩ := x
      have hc0 := (hall 0 (by omega)).1
      have hspot : spot = none := by simpa [Addr.add] using World.cell?_spot hc0
      subst hspot
      refine ⟨b, off, rfl, World.block_lt_of_cell? W _ (by simpa [Addr.add] using hc0), fun j hj => ?_⟩
      rw [hlen] at hj
      obtain ⟨k0, k1, _, _⟩ := hall j (by omega)
      rw [add_flat] at k0 k1
      have hs := hS j (by omega)
      rw [hs.1] at k0
      rw [hs.2.1] at k1
      simp only [List.getElem_map, List.getElem_range]
      exact ⟨k0, by rw [Nat.add_assoc]; exact k1⟩
    · intro y hy
      obtain ⟨i, hi, rfl⟩ := List.mem_map.1 hy
      have := List.mem_range.1 hi
      exact (hS i (by omega)).2.2.2.2
    · rw [List.map_map]
      apply List.map_congr_left
      intro i hi
      have := List.mem_range.1 hi
      simp only [Function.comp]
      rw [(hS i (by omega)).2.2.1, (hS i (by omega)).2.2.2.1]
    · simp
      omega
/-- The datum of an entry's labels. -/
def labD {H : Type} (dl : DataW H) (l : List Lab) : Prop := (dl = .nil ∧ l = []) ∨ ∃ el sp, dl = .slice el sp ∧ el = l.map (fun x => .agg [.lit (.string x.1), .lit (.string x.2)])
set_option maxRecDepth 100000 in
/-- One entry's four cells, opened. -/
theorem open_ent {H : Type} {enc : TypeId × Value → H} {W : World} {n : Nat} {cs : List Value} {D : DataW H} {Pl : List MemPlace} (h : DataW.trod enc Tryd.prog W 0 (fun _ => true) true n 50 cs = some (D, Pl)) :
    ∃ (x : Ent) (A : Option Addr) (c : Nat) (dl : DataW H), cs = [.int .i64 x.seq, .int .i64 x.time, .slice A x.labs.length c, .string ⟨x.line.toArray⟩] ∧ RdL W (.slice A x.labs.length c) x.labs ∧ x.line.length ≤ maxLen ∧ (∀ y ∈ x.labs, y.1.length ≤ maxLen ∧ y.2.length ≤ maxLen) ∧
      D = .agg [.lit (.int .i64 x.seq), .lit (.int .i64 x.time), dl, .lit (.string x.line)] ∧ labD dl x.labs := by
  obtain ⟨xs, k, hk, hxy, hcl, hxl, hf⟩ := DataW.trod_struct Tryd.underlying50 h
  rw [cellsEnt] at hcl
  match cs, hcl, xs, hxl with
  | [v0, v1, v2, v3], _, [y0, y1, y2, y3], _ =>
    have g0 := hf 0 _ rfl
    have g1 := hf 1 _ rfl
    have g2 := hf 2 _ rfl
    have g3 := hf 3 _ rfl
    simp [cellsInt, cellsLabs, cellsStr] at g0 g1 g2 g3
    obtain ⟨z0, e0, f0⟩ := DataW.trod_int Tryd.underlying3 g0
    obtain ⟨z1, e1, f1⟩ := DataW.trod_int Tryd.underlying3 g1
    obtain ⟨s3, e3, f3, b3⟩ := DataW.trod_string Tryd.underlying9 g3
    obtain ⟨A, n2, c2, e2⟩ : ∃ A n2 c2, v2 = .slice A n2 c2 := by
      rcases Go.Deep.open_slice Tryd.underlying32 g2 with ⟨hcs, _⟩ | ⟨a, len, cap, _, _, _, _, hcs, _⟩
      · injection hcs with hcs _; exact ⟨none, 0, 0, hcs⟩
      · injection hcs with hcs _; exact ⟨some a, len, cap, hcs⟩
    subst e2
    obtain ⟨dl, pl⟩ := y2
    obtain ⟨l, hl, hr, hb, hd⟩ := open_labs (d := dl) (p := pl) ⟨k, by simpa [Value.cells] using g2⟩
    subst hl
    injection e0 with e0 _
    injection e1 with e1 _
    injection e3 with e3 _
    subst e0 e1 e3
    obtain ⟨rfl, _⟩ := f0
    obtain ⟨rfl, _⟩ := f1
    subst f3
    simp only [Prod.mk.injEq] at hxy
    refine ⟨⟨z0, z1, l, s3.data.toList⟩, A, c2, dl, by simp, hr, by simp only; rw [Array.length_toList]; exact b3, hb, by simpa using hxy.1, ?_⟩
    rcases hd with h | ⟨el, sp, h1, h2, _, _⟩
    · exact .inl h
    · exact .inr ⟨el, sp, h1, h2⟩
theorem weights_all {H : Type} {P : Program} {e : TypeId} : ∀ {el : List (DataW H)} {j : Nat} {x : DataW H}, el[j]? = some x → ∀ n ∈ x.weights P e, n ∈ DataW.weightsAll P e el
  | [], j, x, h => by simp at h
  | y :: t, 0, x, h => by
    intro n hn
    injection h with h
    subst h
    unfold DataW.weightsAll
    exact List.mem_append.2 (.inl hn)
  | y :: t, j + 1, x, h => by
    intro n hn
    unfold DataW.weightsAll
    exact List.mem_append.2 (.inr (weights_all (by simpa using h) n hn))
set_option maxRecDepth 100000 in
/-- A list of entries that came in, opened: sizes within the reach. -/
theorem open_ents {H : Type} {enc : TypeId × Value → H} {W : World} {a : Option Addr} {len cap : Nat} {d : DataW H} {p : List MemPlace} (h : DataW.Trod enc Tryd.prog W 0 (fun _ => true) true 22 (.slice a len cap) d p)
    (hsz : ∀ n ∈ d.weights Tryd.prog 22, n ≤ reachBytes) :
    ∃ l : List Ent, l.length = len ∧ RdE W (.slice a len cap) l ∧ (∀ x ∈ l, entZ x) ∧ l.length * 56 ≤ 140737488351232 := by
  obtain ⟨fuel, hf⟩ := h
  rcases Go.Deep.open_slice Tryd.underlying22 hf with ⟨hcs, hx⟩ | ⟨x, ln, cp, m, n, D, Pl, hcs, _, hl, hm, hmm, hx, hall⟩
  · simp [Value.cells] at hcs
    obtain ⟨rfl, rfl, rfl⟩ := hcs
    exact ⟨[], rfl, ⟨none, 0, rfl, by simp, fun h => absurd h (by simp)⟩, by simp, by simp⟩
  · simp [Value.cells] at hcs
    obtain ⟨rfl, rfl, rfl⟩ := hcs
    simp only [if_true] at hmm
    subst hmm
    simp only [Prod.mk.injEq] at hx
    obtain ⟨hd, _⟩ := hx
    have each : ∀ i, i < m → ∃ y : Ent × Option Addr × Nat, W.cell? (x.add (i * 4)) = some (.int .i64 y.1.seq) ∧ W.cell? (x.add (i * 4 + 1)) = some (.int .i64 y.1.time) ∧ W.cell? (x.add (i * 4 + 2)) = some (.slice y.2.1 y.1.labs.length y.2.2) ∧ W.cell? (x.add (i * 4 + 3)) = some (.string ⟨y.1.line.toArray⟩) ∧
        RdL W (.slice y.2.1 y.1.labs.length y.2.2) y.1.labs ∧ (i < len → entZ y.1) := by
      intro i hi
      obtain ⟨cs', h1, h2⟩ := hall i hi
      rw [cellsEnt] at h1
      obtain ⟨_, hlen, hcell⟩ := World.cells?_some h1
      obtain ⟨y, A, c, dl, hcs, hr, b1, b2, hD, hdl⟩ := open_ent h2
      subst hcs
      have c0 := hcell 0 (by omega)
      have c1 := hcell 1 (by omega)
      have c2 := hcell 2 (by omega)
      have c3 := hcell 3 (by omega)
      rw [Go.Deep.add_add] at c0 c1 c2 c3
      refine ⟨(y, A, c), by simpa using c0, by simpa using c1, by simpa using c2, by simpa using c3, hr, fun hil => ?_⟩
      refine ⟨?_, by unfold maxLen at b1; simp only; omega, fun z hz => by have := b2 z hz; unfold maxLen at this; omega⟩
      rcases hdl with ⟨_, h0⟩ | ⟨el, sp, h0, h3⟩
      · simp only at h0 ⊢; rw [h0]; simp
      · have hw : (el.length + sp.length) * 32 ≤ reachBytes := by
          apply hsz
          rw [hd]
          unfold DataW.weights
          rw [Tryd.underlying22]
          refine List.mem_cons_of_mem _ (List.mem_append.2 (.inl ?_))
          refine weights_all (j := i) (x := D i) (by simp [hil]) _ ?_
          rw [hD, h0]
          unfold DataW.weights
          rw [Tryd.underlying50]
          refine DataW.weights_mem_each (j := 2) (t := 32) (d := .slice el sp) rfl rfl _ ?_
          unfold DataW.weights
          rw [Tryd.underlying32, ← bytesLab]
          exact List.mem_cons_self ..
        rw [h3, List.length_map] at hw
        simp only [reachBytes] at hw
        simp only
        omega
    haveI : Inhabited (Ent × Option Addr × Nat) := ⟨(⟨0, 0, [], []⟩, none, 0)⟩
    obtain ⟨Y, hY⟩ := Go.Deep.choose_lt each
    have hlen : ((List.range len).map fun i => (Y i).1).length = len := by simp
    refine ⟨(List.range len).map fun i => (Y i).1, hlen, ⟨some x, m, by rw [hlen], by rw [hlen]; exact hl, fun h0 => ?_⟩, ?_, ?_⟩
    · rw [hlen] at h0
      obtain ⟨b, off, spot⟩ := x
      have hc0 := (hY 0 (by omega)).1
      have hspot : spot = none := by simpa [Addr.add] using World.cell?_spot hc0
      subst hspot
      refine ⟨b, off, rfl, World.block_lt_of_cell? W _ (by simpa [Addr.add] using hc0), fun j hj => ?_⟩
      rw [hlen] at hj
      obtain ⟨k0, k1, k2, k3, k4, _⟩ := hY j (by omega)
      rw [add_flat] at k0 k1 k2 k3
      simp only [List.getElem_map, List.getElem_range]
      exact ⟨(Y j).2.1, (Y j).2.2, k0, by rw [Nat.add_assoc]; exact k1, by rw [Nat.add_assoc]; exact k2, by rw [Nat.add_assoc]; exact k3, k4⟩
    · intro y hy
      obtain ⟨i, hi, rfl⟩ := List.mem_map.1 hy
      have hil := List.mem_range.1 hi
      exact (hY i (by omega)).2.2.2.2.2 hil
    · rw [hlen]
      have hw : (((List.range len).map D).length + ((List.range (m - len)).map fun j => D (len + j)).length) * 56 ≤ reachBytes := by
        apply hsz
        rw [hd]
        unfold DataW.weights
        rw [Tryd.underlying22, ← bytesEnt]
        exact List.mem_cons_self ..
      simp only [List.length_map, List.length_range, reachBytes] at hw
      omega
end Go.Proofs.YtaoeabnpmpimgaaDoor
