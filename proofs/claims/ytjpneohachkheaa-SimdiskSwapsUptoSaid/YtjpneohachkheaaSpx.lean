/-
  Swaps that come in, opened; the first swap's model. Conditions: those that each theorem names.
-/
import Derived.Test.YtjpneohachkheaaSsw
namespace Go.Icz
open Go.RowKit
structure SwD where
  A : Option Addr
  C : Nat
  bs : List Nat
  fz : Int
  fl : Int
  y : Bool
  A2 : Option Addr
  C2 : Nat
  ks : List Bool
def SwD.bv (o : SwD) : Value := .slice o.A o.bs.length o.C
def SwD.kv (o : SwD) : Value := .slice o.A2 o.ks.length o.C2
def SwD.cells (o : SwD) : Array Value := #[.slice o.A o.bs.length o.C, .int .i64 o.fz, .int .i64 o.fl, .bool o.y, .slice o.A2 o.ks.length o.C2]
structure SwOk (w : World) (B : Nat) (o : SwD) : Prop where
  bz : o.bs.length ≤ 1048576
  z1 : -9223372036854775808 ≤ o.fz ∧ o.fz ≤ 9223372036854775807
  z2 : -9223372036854775808 ≤ o.fl ∧ o.fl ≤ 9223372036854775807
  br : KB.Rd w o.bv o.bs
  bB : 0 < o.bs.length → ∀ b, o.bv.ownBlock = some b → b < B
  kr : KBo.Rd w o.kv o.ks
  kB : 0 < o.ks.length → ∀ b, o.kv.ownBlock = some b → b < B
theorem SwOk.touch {S : Nat → Prop} {w w' : World} {B : Nat} {o : SwD} (h : SwOk w B o) (t : Tch S w w') (hS : ∀ k, S k → B ≤ k) : SwOk w' B o :=
  ⟨h.bz, h.z1, h.z2, rd_touch h.br t (fun h0 b hb hs => by have := h.bB h0 b hb; have := hS b hs; omega), h.bB, rd_touch h.kr t (fun h0 b hb hs => by have := h.kB h0 b hb; have := hS b hs; omega), h.kB⟩
def RdS (w : World) (B : Nat) (v : Value) (l : List SwD) : Prop :=
  ∃ A c, v = .slice A l.length c ∧ l.length ≤ 1048576 ∧ (0 < l.length → ∃ b off, A = some ⟨b, off, none⟩ ∧ b < B ∧ b < w.heap.size ∧ ∀ j (hj : j < l.length),
    (∀ i u, i < 5 → l[j].cells[i]? = some u → w.cell? ⟨b, off + (j * 5 + i), none⟩ = some u) ∧ SwOk w B l[j])
def b1 : List Nat := [102, 105, 114, 115, 116]
def F1 : DM := ⟨false, -1, 0, false, 1048576, [f0], [(kT, 0)], [], [.create kT 0]⟩
def F2 : DM := ⟨false, -1, 0, false, 1048576, [⟨b1, 0, [5]⟩], [(kT, 0)], [], [.create kT 0]⟩
def F3 : DM := ⟨false, -1, 0, false, 1048576, [⟨b1, 5, []⟩], [(kT, 0)], [], [.create kT 0]⟩
def F4 : DM := ⟨false, -1, 0, false, 1048576, [⟨b1, 5, []⟩], [(kI, 0)], [], [.create kT 0, .rename kT kI]⟩
def F5 : DM := ⟨false, -1, 0, false, 1048576, [⟨b1, 5, []⟩], [(kI, 0)], [(kI, 0)], []⟩
theorem lookT0 : nlook [(kT, 0)] kT = some 0 := by simp [nlook]
theorem fs1 : createM (newM 1048576) kT = (0, F1) := by
  have h : agCreate (newM 1048576) kT = 0 := by unfold agCreate; rw [show rightB kT = true by decide]; rfl
  unfold createM
  rw [h]
  rfl
theorem fs2 : appendM F1 kT b1 = (0, F2) := by
  have h : agMore F1 kT b1.length = 0 := by unfold agMore; rw [show F1.names = [(kT, 0)] from rfl, lookT0]; rfl
  unfold appendM
  rw [h]
  unfold opM
  simp [F1, F2, askM, actMore, lookT0, setF, extF, fileAt, f0, b1]
theorem fs3 : syncM F2 kT = (0, F3) := by
  have h : agThere F2 kT = 0 := by unfold agThere; rw [show F2.names = [(kT, 0)] from rfl, lookT0]; rfl
  unfold syncM
  rw [h]
  unfold opM
  simp [F2, F3, askM, actSync, lookT0, setF, synF, fileAt, b1]
theorem fs4 : renameM F3 kT kI = (0, F4) := by
  have h : agRename F3 kT kI = 0 := by unfold agRename; rw [show F3.names = [(kT, 0)] from rfl, lookT0, show rightB kI = true by decide]; rfl
  unfold renameM
  rw [h]
  unfold opM
  have hn : nren [(kT, 0)] kT kI = [(kI, 0)] := by rw [ren_some lookT0]; simp [nput, ndel]
  simp [F3, F4, askM, actRename, kTI, changeM, nchange, hn]
theorem fs5 : dirM F4 = (0, F5) := rfl
theorem read0 : (readM (newM 1048576) kT).2 = 3 := rfl
theorem setl0 : Setl b1 F5 := ⟨rfl, rfl, rfl, rfl, rfl, rfl, 0, by decide, rfl, .inl rfl⟩
end Go.Icz
namespace Go.Proofs.Ytjpneohachkheaa
open Go.ChangeMaps Go.ChangeShapes Go.WideShapes Go.ChangeAt Go.RowKit Go.Icz
set_option maxRecDepth 100000 in
open Go.Joins Go.Deep in
theorem open_swap {H : Type} {enc : TypeId × Value → H} {W : World} {n : Nat} {cs : List Value} {D : DataW H} {Pl : List MemPlace} (h : DataW.trod enc Try.prog W 0 (fun _ => true) true n 56 cs = some (D, Pl)) (hb : Rows.uptoBulk D ≤ 1048576) :
    ∃ o : SwD, cs = o.cells.toList ∧ SwOk W W.heap.size o := by
  obtain ⟨xs, k, hk, hxy, hcl, hxl, hf⟩ := DataW.trod_struct Try.underlying56 h
  rw [cW] at hcl
  match cs, hcl, xs, hxl with
  | [v0, v1, v2, v3, v4], _, [y0, y1, y2, y3, y4], _ =>
    have g0 := hf 0 _ rfl
    have g1 := hf 1 _ rfl
    have g2 := hf 2 _ rfl
    have g3 := hf 3 _ rfl
    have g4 := hf 4 _ rfl
    simp [cI, cS, cB, cO, cK] at g0 g1 g2 g3 g4
    obtain ⟨A, m, c, e0⟩ := slice_form Try.underlying22 g0
    obtain ⟨z1, e1, _, w1⟩ := DataW.trod_int Try.underlying3 g1
    obtain ⟨z2, e2, _, w2⟩ := DataW.trod_int Try.underlying3 g2
    obtain ⟨z3, e3, _⟩ := DataW.trod_bool Try.underlying4 g3
    obtain ⟨A6, m6, c6, e4⟩ := slice_form Try.underlying23 g4
    simp only [List.cons.injEq, and_true] at e0 e1 e2 e3 e4
    subst e0 e1 e2 e3 e4
    simp only [Prod.mk.injEq] at hxy
    obtain ⟨hD, _⟩ := hxy
    rw [hD] at hb
    simp only [List.map_cons, List.map_nil, Rows.uptoBulk, Rows.uptoBulkAll] at hb
    obtain ⟨l3, hl3, r3, z3'⟩ := open_bytes (d := y0.1) (p := y0.2) g0 (by omega)
    obtain ⟨l6, hl6, r6, z6⟩ := open_bools (d := y4.1) (p := y4.2) g4 (by omega)
    subst hl3 hl6
    have hn1 : -9223372036854775808 ≤ z1 ∧ z1 ≤ 9223372036854775807 := by
      simp [Lit.wf, IntKind.min, IntKind.max, IntKind.signed, IntKind.bits] at w1
      omega
    have hn2 : -9223372036854775808 ≤ z2 ∧ z2 ≤ 9223372036854775807 := by
      simp [Lit.wf, IntKind.min, IntKind.max, IntKind.signed, IntKind.bits] at w2
      omega
    exact ⟨⟨A, c, l3, z1, z2, z3, A6, c6, l6⟩, rfl, ⟨z3', hn1, hn2, r3, kb_far r3, r6, kb_far r6⟩⟩
set_option maxRecDepth 100000 in
open Go.Joins Go.Deep in
theorem open_swaps {H : Type} {enc : TypeId × Value → H} {W : World} {a : Option Addr} {len cap : Nat} {d : DataW H} {p : List MemPlace} (h : DataW.Trod enc Try.prog W 0 (fun _ => true) true 53 (.slice a len cap) d p) (hb : Rows.uptoBulk d ≤ 1048576) :
    ∃ l : List SwD, l.length = len ∧ RdS W W.heap.size (.slice a len cap) l := by
  obtain ⟨fuel, hf⟩ := h
  rcases Go.Deep.open_slice Try.underlying53 hf with ⟨hcs, hx⟩ | ⟨x, ln, cp, m, n, D, Pl, hcs, _, hl, hm, hmm, hx, hall⟩
  · simp [Value.cells] at hcs
    obtain ⟨rfl, rfl, rfl⟩ := hcs
    exact ⟨[], rfl, none, 0, rfl, by simp, fun h => absurd h (by simp)⟩
  · simp [Value.cells] at hcs
    obtain ⟨rfl, rfl, rfl⟩ := hcs
    simp only [if_true] at hmm
    subst hmm
    simp only [Prod.mk.injEq] at hx
    obtain ⟨hd, _⟩ := hx
    rw [hd] at hb
    simp only [Rows.uptoBulk] at hb
    have hbl := bulk_len ((List.range len).map D)
    simp only [List.length_map, List.length_range] at hbl
    have each : ∀ i, i < len → ∃ y : SwD, (∀ k u, k < 5 → y.cells[k]? = some u → W.cell? (x.add (i * 5 + k)) = some u) ∧ SwOk W W.heap.size y := by
      intro i hi
      obtain ⟨cs', h1, h2⟩ := hall i (by omega)
      rw [cW] at h1
      obtain ⟨_, hlen, hcell⟩ := World.cells?_some h1
      have hDi : Rows.uptoBulk (D i) ≤ Rows.uptoBulkAll ((List.range len).map D) := bulk_all (List.mem_map.2 ⟨i, List.mem_range.2 hi, rfl⟩)
      obtain ⟨y, hcs, hok⟩ := open_swap h2 (by omega)
      refine ⟨y, fun k u hk hu => ?_, hok⟩
      have ck := hcell k hk
      rw [Go.Deep.add_add] at ck
      rw [ck, hcs, Array.getElem?_toList]
      exact hu
    haveI : Inhabited SwD := ⟨⟨none, 0, [], 0, 0, false, none, 0, []⟩⟩
    obtain ⟨Y, hY⟩ := Go.Deep.choose_lt each
    have hlen : ((List.range len).map Y).length = len := by simp
    refine ⟨(List.range len).map Y, hlen, some x, m, by rw [hlen], by rw [hlen]; omega, fun h0 => ?_⟩
    rw [hlen] at h0
    obtain ⟨b, off, spot⟩ := x
    have hc0 := (hY 0 (by omega)).1 0 (.slice (Y 0).A (Y 0).bs.length (Y 0).C) (by decide) rfl
    have hspot : spot = none := by simpa [Addr.add] using World.cell?_spot hc0
    subst hspot
    have hbl : b < W.heap.size := World.block_lt_of_cell? W _ (by simpa [Addr.add] using hc0)
    refine ⟨b, off, rfl, hbl, hbl, fun j hj => ?_⟩
    rw [hlen] at hj
    obtain ⟨k0, k1⟩ := hY j hj
    simp only [List.getElem_map, List.getElem_range]
    refine ⟨fun k u hk hu => ?_, k1⟩
    have := k0 k u hk hu
    rwa [add_flat] at this
end Go.Proofs.Ytjpneohachkheaa
