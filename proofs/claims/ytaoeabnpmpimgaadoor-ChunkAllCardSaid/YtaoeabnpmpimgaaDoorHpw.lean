/-
  join's Add and Done, finely: what turns. Conditions: those that each theorem names.
  chunk.Put: a chunk's bytes. Conditions: those that each theorem names.
  chunk.Put of a chunk that may be. Conditions: those that each theorem names.
-/
import Derived.Test.YtaoeabnpmpimgaaDoorHprs
import Derived.Test.YtaoeabnpmpimgaaDoorHo
import Derived.Test.YtaoeabnpmpimgaaDoorHr
import Derived.Test.YtaoeabnpmpimgaaDoorHsg
import Derived.Test.YtaoeabnpmpimgaaDoorEntPut
section
namespace Go.Icz
open Go.RowKit
def KB : Kd Nat where
  e := 5
  z := 1
  enc := fun x => [.int .u8 (x : Int)]
  len := fun _ => rfl
  pos := by decide
  one := fun x u hu => by simp at hu; subst hu; rfl
theorem cells_kb (l : List Nat) : KB.cells l = l.map fun n : Nat => Value.int .u8 (n : Int) := by
  unfold Kd.cells
  induction l with
  | nil => rfl
  | cons x t ih => rw [List.flatMap_cons, List.map_cons, ih]; rfl
theorem own_tch {α : Type} {K : Kd α} {S : Nat → Prop} {w w' : World} {B : Nat} {v : Value} {l : List α} (h : K.Own w B v l) (t : Tch S w w') (hS : ∀ b, v.ownBlock = some b → ¬ S b) : K.Own w' B v l := by
  refine ⟨h.1, ?_⟩
  rcases h.2 with h | ⟨g, cap, cur, hv, hb, hg, r⟩
  · exact .inl h
  · exact .inr ⟨g, cap, cur, hv, hb, t.row hg (hS g (by rw [hv]; rfl)), r⟩
/-- What an Add at g may turn: g, and bytes. -/
structure Gr (g : Nat) (w w' : World) : Prop where
  bel : Below g w w'
  cells : ∀ (k : Nat), k ≠ g → ∀ (cs : Array Value) (t : TypeId), t ≠ 5 → w.heap[k]? = some (Obj.cells cs t (0, 0)) → w'.heap[k]? = some (Obj.cells cs t (0, 0))
  up : ∀ (k : Nat) (o : Obj), o.isCells = false → w.heap[k]? = some o → w'.heap[k]? = some o
theorem Gr.trans {g : Nat} {A B C : World} (h : Gr g A B) (k : Gr g B C) : Gr g A C :=
  ⟨h.bel.trans k.bel, fun j hj cs t ht hh => k.cells j hj cs t ht (h.cells j hj cs t ht hh), fun j o ho hh => k.up j o ho (h.up j o ho hh)⟩
theorem Gr.of_below {g : Nat} {A B : World} (h : Below A.heap.size A B) (hg : g ≤ A.heap.size) : Gr g A B :=
  ⟨h.mono hg, fun k _ _ _ _ hh => (h.block k (Array.getElem?_eq_some_iff.1 hh).1).trans hh, fun k _ _ hh => (h.block k (Array.getElem?_eq_some_iff.1 hh).1).trans hh⟩
/-- The writer at g has written l. -/
def Wq (w : World) (g : Nat) (l : List Nat) : Prop := ∃ v, w.heap[g]? = some (.cells #[v, .int .i64 0] 98 (0, 0)) ∧ KB.Own w (g + 1) v l
theorem Wq.below {w w' : World} {g : Nat} {l : List Nat} (h : Wq w g l) (b : Below w.heap.size w w') : Wq w' g l := by
  obtain ⟨v, hr, ho⟩ := h
  exact ⟨v, (b.block g (row_lt hr)).trans hr, ho.below b⟩
theorem Wq.lt {w : World} {g : Nat} {l : List Nat} (h : Wq w g l) : g < w.heap.size := by
  obtain ⟨v, hr, _⟩ := h
  exact row_lt hr
end Go.Icz
namespace Go.Proofs.YtaoeabnpmpimgaaDoor
open Go.RowKit Go.Icz
set_option maxRecDepth 100000
set_option maxHeartbeats 4000000
theorem kb_own {w : World} {B : Nat} {v : Value} {l : List Nat} : KB.Own w B v l ↔ Go.Icz.Own w B v l := by
  unfold Kd.Own Go.Icz.Own
  rw [cells_kb]
  exact Iff.rfl
theorem infoB : (Tryd.prog.info? KB.e).map (fun i => (i.zero, i.size, i.bytes)) = some (some (.int .u8 0), KB.z, 1) := by kernel_rfl
theorem Wq.new (w : World) : Wq (w.alloc (.cells #[.slice none 0 0, .int .i64 0] 98)) w.heap.size [] := ⟨_, heap_alloc_new w _, Kd.Own.nil _ _⟩
theorem Add_is {g : Nat} {l m : List Nat} {u : Value} {w : World} (h : Wq w g l) (hu : KB.Rd w u m) (hlen : l.length + m.length ≤ 70368744177664) :
    Calls Tryd.prog 54 #[.pointer (some ⟨g, 0, none⟩), u, .int .i64 0] w fun e w' => e = .returned (.tuple #[]) ∧ Wq w' g (l ++ m) ∧ Gr g w w' := by
  obtain ⟨v, hr, ho⟩ := h
  obtain ⟨A, c, rfl, hc⟩ := ho.rd.form
  obtain ⟨A2, c2, rfl, hc2⟩ := hu.form
  have c0 := held_cell (i := 0) hr rfl
  have c1 := held_cell (i := 1) hr rfl
  have hg := row_lt hr
  have hmm : l.length + m.length ≤ maxLen := by unfold maxLen; omega
  have hml : (l.length + m.length) * 1 ≤ 140737488355328 := by omega
  have hB : g + 1 ≤ w.heap.size := hg
  have HR := hid hr
  have HO := hid ho
  clear hr hlen
  go_enter Tryd.func54, Tryd.ntmps54
  go_wp2_with (at_builtin; refine Kd.wp_app (K := KB) rfl (.tmp 16) (.tmp 17) 66 rfl Tryd.underlying66 infoB rfl (g + 1) (.slice A l.length c) (.slice A2 m.length c2) l m rfl ho rfl hu hmm hml hB ?_; intro v1 w1 o1 b1 g1 n1; generalize hP : l ++ m = P at o1; have HP9 := hid hP; clear hP; obtain ⟨A1, c3, hv1, _⟩ := o1.rd.form; subst hv1; have O1 := hid o1; have G1 := hid g1; clear o1 g1 n1; have r1 := (b1.block g (Nat.lt_succ_self g)).trans HR.out; have d0 := held_cell (i := 0) r1 rfl; have d1 := held_cell (i := 1) r1 rfl; have f0 := held_frozen (i := 0) r1; have f1 := held_frozen (i := 1) r1; clear c0 c1 hu ho hmm hml)
  have r2 := row_set (i := 0) r1 (.slice A1 P.length c3)
  have r3 := row_set (i := 1) r2 (.int .i64 0)
  have t2 : Tch (· = g) w1 ((w1.setCell ⟨g, 0, none⟩ (.slice A1 P.length c3)).setCell ⟨g, 1, none⟩ (.int .i64 0)) := (Tch.set (· = g) w1 ⟨g, 0, none⟩ _ rfl).trans (Tch.set (· = g) _ ⟨g, 1, none⟩ _ rfl)
  refine bodyPost_end (v := .tuple #[]) (by simp [results, Tryd.results54, go_sem]) rfl ⟨rfl, ⟨_, r3, ?_⟩, ?_⟩
  · rw [HP9.out]
    refine own_tch O1.out t2 (fun b hb e => ?_)
    have := (World.ownsRow.lt O1.out b hb).1
    omega
  · have ob : ∀ k, (Value.slice A l.length c).ownBlock = some k → g + 1 ≤ k ∧ ∀ o, w.heap[k]? = some o → ∃ cs, o = .cells cs 5 (0, 0) := fun k hk => by
      refine ⟨(World.ownsRow.lt HO.out k hk).1, fun o ho2 => ?_⟩
      rcases HO.out.2 with ⟨hv, _⟩ | ⟨g', cap, cur, hv, _, hc2, _⟩
      · rw [hv] at hk; cases hk
      · rw [hv] at hk
        injection hk with hk
        have hk : g' = k := hk
        subst hk
        rw [hc2] at ho2
        injection ho2 with ho2
        exact ⟨cur, ho2.symm⟩
    refine ⟨(b1.mono (Nat.le_succ g)).trans (t2.to_below (fun j hj => by omega) (by have := b1.size; omega)), fun k hk cs t ht hh => ?_, fun k o ho2 hh => ?_⟩
    · have h1 : w1.heap[k]? = some (.cells cs t (0, 0)) := (G1.out.block k (row_lt hh) (fun e => by
        obtain ⟨cs2, e2⟩ := (ob k e.symm).2 _ hh
        injection e2 with _ e2 _
        exact ht e2)).trans hh
      exact t2.row h1 hk
    · have hkl := (Array.getElem?_eq_some_iff.1 hh).1
      have h1 : w1.heap[k]? = some o := (G1.out.block k hkl (fun e => by
        obtain ⟨cs2, e2⟩ := (ob k e.symm).2 _ hh
        rw [e2] at ho2
        cases ho2)).trans hh
      refine (t2.block k (by have := b1.size; omega) (fun e => ?_)).trans h1
      subst e
      rw [HR.out] at hh
      injection hh with hh
      rw [← hh] at ho2
      cases ho2
theorem Done_is {g : Nat} {l : List Nat} {w : World} (h : Wq w g l) : Calls Tryd.prog 58 #[.pointer (some ⟨g, 0, none⟩)] w fun e w' => ∃ v, e = .returned (.tuple #[v, .int .i64 0]) ∧ KB.Own w (g + 1) v l ∧ w = w' := by
  obtain ⟨v, hr, ho⟩ := h
  obtain ⟨A, c, rfl, hc⟩ := ho.rd.form
  have c0 := held_cell (i := 0) hr rfl
  have c1 := held_cell (i := 1) hr rfl
  have HO := hid ho
  clear hr ho
  go_enter Tryd.func58, Tryd.ntmps58
  go_wp2
  go_ret2
  exact ⟨_, rfl, HO.out, rfl⟩
end Go.Proofs.YtaoeabnpmpimgaaDoor
end
section
namespace Go.Icz
open Go.RowKit
/-- Put in the midst: the writer at g has written l; the chunk's box is at bx. -/
structure Ps (w : World) (cs : Array Value) (bx g : Nat) (l : List Nat) (wx : World) : Prop where
  wq : Wq wx g l
  bel : Below w.heap.size w wx
  box : wx.heap[bx]? = some (.cells cs 39 (0, 0))
  bg : bx < g ∧ w.heap.size ≤ bx
theorem Ps.below {w wx wy : World} {cs : Array Value} {bx g : Nat} {l : List Nat} (h : Ps w cs bx g l wx) (b : Below wx.heap.size wx wy) : Ps w cs bx g l wy :=
  ⟨h.wq.below b, h.bel.trans (b.mono h.bel.size), (b.block bx (row_lt h.box)).trans h.box, h.bg⟩
theorem Ps.add {w wx wy : World} {cs : Array Value} {bx g : Nat} {l m : List Nat} (h : Ps w cs bx g l wx) (hq : Wq wy g m) (G : Gr g wx wy) : Ps w cs bx g m wy :=
  ⟨hq, h.bel.trans (G.bel.mono (by have := h.bg; omega)), G.cells bx (by have := h.bg; omega) cs _ (by decide) h.box, h.bg⟩
theorem Ps.stl {w wx wy : World} {cs : Array Value} {bx g n : Nat} {l : List Nat} (h : Ps w cs bx g l wx) (t : Stl n wx wy) (hn : w.heap.size ≤ n) : Ps w cs bx g l wy := by
  obtain ⟨v, hr, ho⟩ := h.wq
  refine ⟨⟨v, t.2 _ _ _ _ hr, ho.1, ?_⟩, Tch.below h.bel t.1 (fun j hj => by omega) h.bel.size, t.2 _ _ _ _ h.box, h.bg⟩
  rcases ho.2 with h | ⟨g', cap, cur, hv, hb, hg, r⟩
  · exact .inl h
  · exact .inr ⟨g', cap, cur, hv, hb, t.2 _ _ _ _ hg, r⟩
theorem Gr.kept {g pb n₁ : Nat} {W W' : World} {cs : Array Value} {t : TypeId} (h : Gr g W W') (hp : W.heap[pb]? = some (.cells cs t (0, 0))) (ht : t ≠ 5) (hne : pb ≠ g) : KeptS (fun k => k < g ∨ k = pb) n₁ W W' := by
  refine ⟨h.bel.os, h.bel.tape, h.bel.output, h.bel.size, fun k hk cs2 t2 z hh => ?_, fun k _ o ho hh => h.up k o ho hh⟩
  rcases hk with hk | rfl
  · exact (h.bel.block k hk).trans hh
  · rw [hp] at hh
    injection hh with hh
    injection hh with e1 e2 e3
    subst e1 e2 e3
    exact h.cells k hne cs t ht hp
end Go.Icz
namespace Go.Proofs.YtaoeabnpmpimgaaDoor
open Go.RowKit Go.Icz Go.Shelf
attribute [local go_sem] Oper.semAt_some
set_option maxRecDepth 100000
set_option maxHeartbeats 4000000
/-- One row behind another, as bytes. -/
def pairB (p : CRow × CRow) : List Nat := num (p.2.time - p.1.time).toNat ++ num (zig (p.2.seq - p.1.seq)) ++ txt ⟨p.2.line.toArray⟩
/-- The chunk's bytes. -/
def headB (labs : List Lab) (r : CRow) (n : Nat) : List Nat := txt (str (bytesN labs)) ++ num n ++ num r.time.toNat ++ num r.seq.toNat ++ txt ⟨r.line.toArray⟩
def chB (labs : List Lab) (rows : List CRow) : List Nat := headB labs (rows.headD ⟨0, 0, []⟩) rows.length ++ (prs rows 0).flatMap pairB
theorem made_kb {w : World} {l : List Nat} {e : Ending} {w' : World} (h : Made w l e w') : ∃ v, e = .returned (.tuple #[v, .int .i64 0]) ∧ KB.Rd w' v l ∧ Below w.heap.size w w' := by
  obtain ⟨v, he, ho, b⟩ := h
  exact ⟨v, he, (kb_own.2 ho).rd, b⟩
theorem Put_no (labs : List Lab) (rows : List CRow) (A A2 : Option Addr) (C C2 : Nat) (w : World) (hL : RdL w (.slice A labs.length C) labs) (hR : KRw.Rd w (.slice A2 rows.length C2) rows) (hT : Tabs w) (hz : ∀ x ∈ rows, entZ (entC labs x)) (hln : rows.length ≤ 4611686018427387904) (hf : chR labs rows = false) :
    Calls Tryd.prog 31 #[.agg #[.slice A labs.length C, .slice A2 rows.length C2]] w fun e w' => e = .returned (.tuple #[.slice none 0 0, .int .i64 1]) ∧ Below w.heap.size w w' := by
  have b0 : Below w.heap.size w (w.alloc (.cells #[.slice A labs.length C, .slice A2 rows.length C2] 39)) := (Below.refl _ w).alloc (Nat.le_refl _) _
  have hr := CRight_is labs rows A A2 C C2 _ (hL.below b0) (hR.below b0) (hT.below b0) hz hln
  rw [hf] at hr
  have HB := hid b0
  clear hL hR hT hz hf b0 hln
  go_enter Tryd.func31, Tryd.ntmps31
  go_wp2_with (go_at_call 14; refine hr.mono ?_; rintro e w1 ⟨rfl, b1⟩; clear hr)
  go_ret2
  exact ⟨rfl, HB.out.trans (b1.mono HB.out.size)⟩
end Go.Proofs.YtaoeabnpmpimgaaDoor
end
section
namespace Go.Proofs.YtaoeabnpmpimgaaDoor
open Go.RowKit Go.Icz Go.Shelf
attribute [local go_sem] Oper.semAt_some
set_option maxRecDepth 100000
set_option maxHeartbeats 4000000
theorem kb_rd {w : World} {v : Value} {l : List Nat} (h : KB.Rd w v l) : Go.Icz.Rd w v l := by
  obtain ⟨A, c, hv, hc, hr⟩ := h
  refine ⟨A, c, hv, hc, fun h0 => ?_⟩
  obtain ⟨b, off, hA, hlt, hcell⟩ := hr h0
  refine ⟨b, off, hA, hlt, fun j hj => hcell j _ ?_⟩
  rw [cells_kb]
  simp [hj]
theorem conv_kbs {l : List Nat} (v : Value) (wx : World) (h : KB.Rd wx v l) : (convert 66 9 v).run Tryd.prog wx = .ok (.string (str l)) wx := conv_rd std (kb_rd h)
theorem prs_mem {rows : List CRow} {x : CRow × CRow} (h : x ∈ prs rows 0) : x.1 ∈ rows ∧ x.2 ∈ rows := by
  unfold prs at h
  have := List.of_mem_zip h
  exact ⟨List.mem_of_mem_drop this.1, List.mem_of_mem_drop this.2⟩
theorem prs_len (rows : List CRow) (k : Nat) : (prs rows k).length ≤ rows.length := by
  unfold prs
  rw [List.length_zip, List.length_drop, List.length_drop]
  omega
theorem cmpE_time {labs : List Lab} {x y : CRow} (h : cmpE (entC labs x) (entC labs y) < 0) : x.time ≤ y.time := by
  unfold cmpE icmp entC at h
  simp only at h
  by_cases h1 : x.time ≤ y.time
  · exact h1
  · have a1 : ¬ x.time < y.time := by omega
    have a2 : y.time < x.time := by omega
    simp [or2, a1, a2] at h
theorem pairB_len (p : CRow × CRow) (h1 : 0 ≤ p.2.time - p.1.time) (h2 : p.2.time - p.1.time < 1099511627776) (h3 : -1099511627776 ≤ p.2.seq - p.1.seq ∧ p.2.seq - p.1.seq < 1099511627776) (h4 : p.2.line.length ≤ 1024) : (pairB p).length ≤ 1048 := by
  unfold pairB
  have l1 := num_len8 (n := (p.2.time - p.1.time).toNat) (by omega)
  have l2 := num_len8 (n := zig (p.2.seq - p.1.seq)) (zig_lt (by omega) (by omega))
  have hls : (⟨p.2.line.toArray⟩ : ByteArray).size = p.2.line.length := Lib.size_mk _
  have l3 := txt_len2 ⟨p.2.line.toArray⟩ (by omega)
  rw [List.length_append, List.length_append]
  omega
theorem flat_len : ∀ {l : List (CRow × CRow)}, (∀ p ∈ l, (pairB p).length ≤ 1048) → (l.flatMap pairB).length ≤ l.length * 1048
  | [], _ => by simp
  | a :: t, h => by
    have ih := flat_len (l := t) (fun p hp => h p (by simp [hp]))
    have := h a (by simp)
    rw [List.flatMap_cons, List.length_append, List.length_cons]
    omega
theorem callsIn_round {r n : Nat} {P : Program} {f : FuncId} {args : Array Value} {w : World} {R : Ending → World → Prop} (h : Calls P f args w R) : CallsIn (Fence.wide.inRound r) n P f args w R := callsIn_wide.2 h
theorem Put_yes (labs : List Lab) (rows : List CRow) (A A2 : Option Addr) (C C2 : Nat) (w : World) (hL : RdL w (.slice A labs.length C) labs) (hR : KRw.Rd w (.slice A2 rows.length C2) rows) (hT : Tabs w) (hz : ∀ x ∈ rows, entZ (entC labs x)) (hln : rows.length ≤ 4611686018427387904) (hf : chR labs rows = true) :
    Calls Tryd.prog 31 #[.agg #[.slice A labs.length C, .slice A2 rows.length C2]] w fun e w' => ∃ v, e = .returned (.tuple #[v, .int .i64 0]) ∧ KB.Own w' w.heap.size v (chB labs rows) ∧ Below w.heap.size w w' := by
  obtain ⟨cs, hcs⟩ : ∃ cs : Array Value, cs = #[.slice A labs.length C, .slice A2 rows.length C2] := ⟨_, rfl⟩
  obtain ⟨W0, hW0⟩ : ∃ W0, W0 = w.alloc (.cells #[.slice A labs.length C, .slice A2 rows.length C2] 39) := ⟨_, rfl⟩
  have b0 : Below w.heap.size w W0 := by rw [hW0]; exact (Below.refl _ w).alloc (Nat.le_refl _) _
  have x0 : W0.heap[w.heap.size]? = some (.cells cs 39 (0, 0)) := by rw [hW0, hcs]; exact heap_alloc_new w _
  have hr := CRight_is labs rows A A2 C C2 _ (hL.below b0) (hR.below b0) (hT.below b0) hz hln
  rw [hf] at hr
  have hf2 := hf
  unfold chR at hf2
  simp only [Bool.and_eq_true, decide_eq_true_eq] at hf2
  obtain ⟨⟨⟨⟨n1, n2⟩, hrr⟩, hrb⟩, _⟩ := hf2
  have hent : ∀ x ∈ rows, (1 ≤ x.seq ∧ x.seq < 1099511627776) ∧ (0 ≤ x.time ∧ x.time < 1099511627776) ∧ x.line.length ≤ 1024 ∧ rightS labs = true := fun x hx => by
    have := List.all_eq_true.1 hrr x hx
    unfold entR entC at this
    simp only [Bool.and_eq_true, decide_eq_true_eq] at this
    exact ⟨this.1.1.1, this.1.1.2, this.1.2, this.2⟩
  obtain ⟨r0, hr0⟩ : ∃ r0, ∀ h : 0 < rows.length, rows[0]'h = r0 := ⟨rows[0]'(by omega), fun _ => rfl⟩
  have he0 := hent r0 (by rw [← hr0 (by omega)]; exact List.getElem_mem _)
  have hhd : rows.headD ⟨0, 0, []⟩ = r0 := by
    rw [← hr0 (by omega)]
    cases rows with
    | nil => exact absurd n1 (by decide)
    | cons a t => rfl
  have hbl := bytesN_len he0.2.2.2
  have cells : ∀ wx, Below W0.heap.size W0 wx → wx.cell? ⟨w.heap.size, 0, none⟩ = some (.slice A labs.length C) ∧ wx.cell? ⟨w.heap.size, 1, none⟩ = some (.slice A2 rows.length C2) := fun wx b => by
    have y := (b.block w.heap.size (row_lt x0)).trans x0
    rw [hcs] at y
    exact ⟨held_cell y rfl, held_cell y rfl⟩
  have hBy := fun wx (b : Below W0.heap.size W0 wx) => Bytes_is _ labs wx (hL.below (b0.trans (b.mono b0.size))) (hT.below (b0.trans (b.mono b0.size))) he0.2.2.2
  have HCE := hid cells
  have HB0 := hid b0
  have HX0 := hid x0
  have HE := hid hent
  have HBY := hid hBy
  have HR := hid hR
  have HN := hid (And.intro n1 n2)
  have HBL := hid hbl
  have HR0 := hid hr0
  have HHD := hid hhd
  have HE0 := hid he0
  obtain ⟨bR, offR, cR, hvR, hltR, hcs1⟩ := hR.ats (j := 0) (by omega)
  injection hvR with hv1 _ hv2
  subst hv1
  subst hv2
  have row : ∀ wx, Below w.heap.size w wx → wx.cell? ⟨bR, offR, none⟩ = some (.int .i64 r0.seq) ∧ wx.cell? ⟨bR, offR + 1, none⟩ = some (.int .i64 r0.time) ∧ wx.cell? ⟨bR, offR + 2, none⟩ = some (.string ⟨r0.line.toArray⟩) := fun wx b => by
    have q0 := hcs1 0 (by omega) 0 _ (by decide) rfl
    have q1 := hcs1 0 (by omega) 1 _ (by decide) rfl
    have q2 := hcs1 0 (by omega) 2 _ (by decide) rfl
    rw [hr0 (by omega)] at q0 q1 q2
    have z : ∀ n, offR + (0 * KRw.z + n) = offR + n := fun n => by omega
    rw [z] at q0 q1 q2
    exact ⟨(b.cell (p := ⟨bR, offR, none⟩) hltR).trans q0, (b.cell (p := ⟨bR, offR + 1, none⟩) hltR).trans q1, (b.cell (p := ⟨bR, offR + 2, none⟩) hltR).trans q2⟩
  have HROW := hid row
  have T1 := fun wx => Text_yes (str (bytesN labs)) wx (by rw [str_len]; omega)
  have ht1 := txt_len2 (str (bytesN labs)) (by rw [str_len]; omega)
  rw [str_len] at ht1
  have hls : (⟨r0.line.toArray⟩ : ByteArray).size = r0.line.length := Lib.size_mk _
  have T2 := fun wx => Text_yes ⟨r0.line.toArray⟩ wx (by omega)
  have ht2 := txt_len2 ⟨r0.line.toArray⟩ (by omega)
  have N1 := fun wx => Number_yes (rows.length : Int) wx (by omega) (by omega)
  have hn1 := num_len8 (n := ((rows.length : Int)).toNat) (by omega)
  have N2 := fun wx => Number_yes r0.time wx (by omega) (by omega)
  have hn2 := num_len8 (n := r0.time.toNat) (by omega)
  have N3 := fun wx => Number_yes r0.seq wx (by omega) (by omega)
  have hn3 := num_len8 (n := r0.seq.toNat) (by omega)
  have HHB : Hid (headB labs r0 rows.length = txt (str (bytesN labs)) ++ num ((rows.length : Int)).toNat ++ num r0.time.toNat ++ num r0.seq.toNat ++ txt ⟨r0.line.toArray⟩) := hid (by unfold headB; rw [Int.toNat_natCast])
  have cv := fun (v : Value) wx (h : KB.Rd wx v (bytesN labs)) => conv_kbs v wx h
  rw [hls] at ht2
  have HBR := hid hltR
  clear row hcs1 hltR hls
  have HCS := hid hcs
  have HRB := hid hrb
  clear cells hBy b0 x0 hent hL hR hT hz hf hln n1 n2 hrr hrb hbl he0 hr0 hhd hcs
  refine (callsIn_wide (n := 9)).1 ?_
  refine callsIn_of_wp_marks Tryd.func31 rfl trivial (wpIn_wide.2 ?_) rfl
  simp only [Tryd.ntmps31, List.size_toArray, List.length_cons, List.length_nil, Nat.reduceAdd, Nat.reduceSub, Array.replicate_succ, Array.replicate_zero, List.push_toArray, List.append_toArray, List.nil_append, List.cons_append]
  have e0 := HCE.out W0 (Below.refl _ _)
  obtain ⟨e1, e2⟩ := e0
  rw [hW0] at hr e1 e2
  go_upto_region 3 with (first
    | (go_at_call 14; refine hr.mono ?_; rintro e w1 ⟨rfl, b1⟩; clear hr))
  rw [← hW0] at b1
  obtain ⟨e3, e4⟩ := HCE.out w1 b1
  have hB := HBY.out w1 b1
  clear e1 e2 hW0
  generalize txt (str (bytesN labs)) = m1 at *
  generalize str (bytesN labs) = s1 at *
  generalize num ((rows.length : Int)).toNat = m2 at *
  generalize num r0.time.toNat = m3 at *
  generalize num r0.seq.toNat = m4 at *
  generalize txt ⟨r0.line.toArray⟩ = m5 at *
  have HL1 : Hid (m1.length ≤ 4408 ∧ m5.length ≤ 1032 ∧ m2.length ≤ 8 ∧ m3.length ≤ 8 ∧ m4.length ≤ 8) := hid (by have := HBL.out; have := HE0.out.2.2.1; omega)
  clear ht1 ht2 hn1 hn2 hn3
  have B1 := hid b1
  have hpos : (0 : Int) < (rows.length : Int) := by have := HN.out.1; omega
  go_upto_region 7 with (first
    | (go_at_call 53; refine hB.mono ?_; rintro e w2 h2; obtain ⟨v2, rfl, rd2, b2⟩ := made_kb h2; clear h2 hB))
  have b02 : Below W0.heap.size W0 w2 := b1.trans (b2.mono b1.size)
  obtain ⟨g, hg⟩ : ∃ g, g = w2.heap.size := ⟨_, rfl⟩
  have P3 : Hid (Ps w cs w.heap.size g [] (w2.alloc (.cells #[.slice none 0 0, .int .i64 0] 98))) := hid (by
    have hz := HB0.out.size
    have hz2 := row_lt HX0.out
    have hz3 := b02.size
    have q := Wq.new w2
    rw [← hg] at q
    exact ⟨q, (HB0.out.trans (b02.mono hz)).trans ((Below.refl _ w2).alloc (by omega) _), row_alloc ((b02.block _ hz2).trans HX0.out) _, by omega, Nat.le_refl _⟩)
  have hA : ∀ l m wx u, Hid (Ps w cs w.heap.size g l wx) → KB.Rd wx u m → l.length + m.length ≤ 70368744177664 → Calls Tryd.prog 54 #[.pointer (some ⟨g, 0, none⟩), u, .int .i64 0] wx fun e w' => e = .returned (.tuple #[]) ∧ Hid (Ps w cs w.heap.size g (l ++ m) w') ∧ Hid (Gr g wx w') := fun l m wx u P hu hl => by
    refine (Add_is P.out.wq hu hl).mono ?_
    rintro e w' ⟨rfl, q, G⟩
    exact ⟨rfl, hid (P.out.add q G), hid G⟩
  have hC : ∀ l wx, Hid (Ps w cs w.heap.size g l wx) → wx.cell? ⟨w.heap.size, 0, none⟩ = some (.slice A labs.length C) ∧ wx.cell? ⟨w.heap.size, 1, none⟩ = some (.slice (some ⟨bR, offR, none⟩) rows.length C2) := fun l wx P => by
    have y := P.out.box
    rw [HCS.out] at y
    exact ⟨held_cell y rfl, held_cell y rfl⟩
  have HA := hid hA
  have HC := hid hC
  have cv2 := cv v2 _ (rd2.below ((Below.refl _ w2).alloc (Nat.le_refl _) (.cells #[.slice none 0 0, .int .i64 0] 98)))
  clear hA hC cv e3 e4 b1 rd2 b2 b02
  subst hg
  go_upto_region 13 with (first
    | (go_at_call 55; refine (T1 _).mono ?_; rintro e w4 h4; obtain ⟨v4, rfl, rd4, b4⟩ := made_kb h4; have P4 := hid (P3.out.below b4); clear h4 T1 cv2 P3)
    | (go_at_call 54; refine (HA.out _ _ _ _ P4 rd4 (by have := HL1.out; simp; omega)).mono ?_; rintro e w5 ⟨rfl, P5, G5⟩; obtain ⟨e5, e6⟩ := HC.out _ _ P5; clear rd4 b4 P4)
    | (go_at_call 56; refine (N1 _).mono ?_; rintro e w6 h6; obtain ⟨v6, rfl, rd6, b6⟩ := made_kb h6; have P6 := hid (P5.out.below b6); clear h6 N1 e5 e6)
    | (go_at_call 54; refine (HA.out _ _ _ _ P6 rd6 (by have := HL1.out; simp; omega)).mono ?_; rintro e w7 ⟨rfl, P7, G7⟩; obtain ⟨e7, e8⟩ := HC.out _ _ P7; obtain ⟨q0, q1, q2⟩ := HROW.out _ P7.out.bel; have hne7 := hid (show w2.heap.size < w7.heap.size from P7.out.wq.lt); clear rd6 b6 P6)
    | (go_at_call 56; refine (N2 _).mono ?_; rintro e w8 h8; obtain ⟨v8, rfl, rd8, b8⟩ := made_kb h8; have P8 := hid ((P7.out.below ((Below.refl _ w7).alloc (Nat.le_refl _) _)).below b8); have R8 := hid ((b8.block w7.heap.size (by rw [World.size_alloc]; omega)).trans (heap_alloc_new w7 _)); clear h8 N2 e7 e8 q0 q1 q2)
    | (go_at_call 54; refine (HA.out _ _ _ _ P8 rd8 (by have := HL1.out; simp; omega)).mono ?_; rintro e w9 ⟨rfl, P9, G9⟩; have R9 := hid (G9.out.cells w7.heap.size (by have := hne7.out; omega) _ _ (by decide) R8.out); have s9 := held_cell (i := 0) R9.out rfl; clear rd8 b8 P8 R8)
    | (go_at_call 56; refine (N3 _).mono ?_; rintro e w10 h10; obtain ⟨v10, rfl, rd10, b10⟩ := made_kb h10; have P10 := hid (P9.out.below b10); have R10 := hid ((b10.block w7.heap.size (row_lt R9.out)).trans R9.out); clear h10 N3 s9)
    | (go_at_call 54; refine (HA.out _ _ _ _ P10 rd10 (by have := HL1.out; simp; omega)).mono ?_; rintro e w11 ⟨rfl, P11, G11⟩; have R11 := hid (G11.out.cells w7.heap.size (by have := hne7.out; omega) _ _ (by decide) R10.out); have s11 := held_cell (i := 2) R11.out rfl; clear rd10 b10 P10 R10)
    | (go_at_call 55; refine (T2 _).mono ?_; rintro e w12 h12; obtain ⟨v12, rfl, rd12, b12⟩ := made_kb h12; have P12 := hid (P11.out.below b12); clear h12 T2 s11)
    | (go_at_call 54; refine (HA.out _ _ _ _ P12 rd12 (by have := HL1.out; simp; omega)).mono ?_; rintro e w13 ⟨rfl, P13, G13⟩; obtain ⟨e13, e14⟩ := HC.out _ _ P13; clear rd12 b12 P12))
  go_wp2_with (go_at_call 37; refine (pairsR_is _ _ _ _).mono ?_; rintro e w14 ⟨rfl, hw14⟩)
  obtain ⟨hd, hhd⟩ : ∃ hd, hd = headB labs r0 rows.length := ⟨_, rfl⟩
  have P13' : Hid (Ps w cs w.heap.size w2.heap.size hd w13) := hid (by
    have := P13.out
    rw [hhd, HHB.out]
    simpa using this)
  have y0 : KRw.Rd w14 (.slice (some ⟨bR, offR, none⟩) rows.length C2) rows := by rw [hw14]; exact HR.out.below (P13.out.bel.trans ((Below.refl _ w13).alloc P13.out.bel.size _))
  have hsb : w14.cell? ⟨w13.heap.size, 0, none⟩ = some (.slice (some ⟨bR, offR, none⟩) rows.length C2) := by rw [hw14]; exact held_cell (i := 0) (heap_alloc_new w13 _) rfl
  have z14 : w14.heap.size = w13.heap.size + 1 := by rw [hw14]; simp
  have P14 : Hid (Ps w cs w.heap.size w2.heap.size hd w14) := hid (by rw [hw14]; exact P13'.out.below ((Below.refl _ w13).alloc (Nat.le_refl _) _))
  have hpr : w14.heap[w13.heap.size]? = some (.cells #[.slice (some ⟨bR, offR, none⟩) rows.length C2] 37 (0, 0)) := by rw [hw14]; exact heap_alloc_new w13 _
  have hg13 : w2.heap.size < w13.heap.size := P13.out.wq.lt
  have hseq := pairsR1_givesS (N := fun k => k < w2.heap.size ∨ k = w13.heap.size) w14 w13.heap.size (.slice (some ⟨bR, offR, none⟩) rows.length C2) rows hsb (by omega) y0 (by have := HN.out; omega) (.inr rfl) (fun _ bb hb => by
    have hb2 : bR = bb := by injection hb
    have hz := P13.out.bg
    have := HBR.out
    exact .inl (by omega))
  rw [← hw14]
  have HG13 := hid (And.intro hg13 hpr)
  have HHDL : Hid (hd.length = m1.length + m2.length + m3.length + m4.length + m5.length) := hid (by rw [hhd, HHB.out]; simp; omega)
  have hz14 := P14.out.bel.size
  clear hw14 hsb y0 e13 e14 hg13 hpr
  obtain ⟨I, hI0⟩ : ∃ I : List (CRow × CRow) → World → Prop, I = (fun pre Wi => Ps w cs w.heap.size w2.heap.size (hd ++ pre.flatMap pairB) Wi ∧ Wi.heap[w13.heap.size]? = some (.cells #[.slice (some ⟨bR, offR, none⟩) rows.length C2] 37 (0, 0))) := ⟨_, rfl⟩
  have HI0 := hid hI0
  clear hI0
  refine (wpIn_wide (n := 8)).1 (wp_rangeFuncS (N := fun k => k < w2.heap.size ∨ k = w13.heap.size) (ps := #[60, 61]) (gf := 61) (lb := #[.pointer (some ⟨w13.heap.size, 0, none⟩)]) rfl (enters_of Tryd.func61 (by kernel_rfl) rfl) (fun _ => rfl) hseq
    I (fun _ => False)
    (fun s a b h t => by rw [HI0.out] at h ⊢; exact ⟨h.1.stl t hz14, t.2 _ _ _ _ h.2⟩)
    (fun a b h t => h)
    (by rw [HI0.out]; exact ⟨by simpa using P14.out, HG13.out.2⟩)
    (fun x b => { tmps := #[Go.Value.agg #[Go.Value.slice A labs.length C, Go.Value.slice (some { block := bR, off := offR }) rows.length C2], Go.Value.pointer (some { block := w.heap.size, off := 0 }), Go.Value.slice none 0 0, Go.Value.int Go.IntKind.i64 0, v2, Go.Value.int Go.IntKind.i64 0, Go.Value.pointer (some { block := w2.heap.size, off := 0 }), Go.Value.pointer (some { block := w7.heap.size, off := 0 }), .pointer (some ⟨b, 0, none⟩), .pointer (some ⟨b + 1, 0, none⟩), Go.Value.agg #[Go.Value.slice A labs.length C, Go.Value.slice (some { block := bR, off := offR }) rows.length C2], Go.Value.bool true, Go.Value.bool false, Go.Value.tuple #[v2, Go.Value.int Go.IntKind.i64 0], Go.Value.pointer (some { block := w.heap.size, off := 0 }), Go.Value.slice A labs.length C, Go.Value.tuple #[v2, Go.Value.int Go.IntKind.i64 0], v2, Go.Value.int Go.IntKind.i64 0, Go.Value.int Go.IntKind.i64 0, Go.Value.bool false, undef, v2, Go.Value.string s1, Go.Value.tuple #[v4, Go.Value.int Go.IntKind.i64 0], v4, Go.Value.int Go.IntKind.i64 0, Go.Value.tuple #[], Go.Value.pointer (some { block := w.heap.size, off := 1 }), Go.Value.slice (some { block := bR, off := offR }) rows.length C2, Go.Value.int Go.IntKind.i64 (rows.length : Int), Go.Value.tuple #[v6, Go.Value.int Go.IntKind.i64 0], v6, Go.Value.int Go.IntKind.i64 0, Go.Value.tuple #[], Go.Value.pointer (some { block := w.heap.size, off := 1 }), Go.Value.slice (some { block := bR, off := offR }) rows.length C2, Go.Value.pointer (some { block := bR, off := offR }), Go.Value.agg #[Go.Value.int Go.IntKind.i64 r0.seq, Go.Value.int Go.IntKind.i64 r0.time, Go.Value.string { data := List.toArray r0.line }], Go.Value.pointer (some { block := w7.heap.size, off := 1 }), Go.Value.int Go.IntKind.i64 r0.time, Go.Value.tuple #[v8, Go.Value.int Go.IntKind.i64 0], v8, Go.Value.int Go.IntKind.i64 0, Go.Value.tuple #[], Go.Value.pointer (some { block := w7.heap.size, off := 0 }), Go.Value.int Go.IntKind.i64 r0.seq, Go.Value.tuple #[v10, Go.Value.int Go.IntKind.i64 0], v10, Go.Value.int Go.IntKind.i64 0, Go.Value.tuple #[], Go.Value.pointer (some { block := w7.heap.size, off := 2 }), Go.Value.string { data := List.toArray r0.line }, Go.Value.tuple #[v12, Go.Value.int Go.IntKind.i64 0], v12, Go.Value.int Go.IntKind.i64 0, Go.Value.tuple #[], Go.Value.pointer (some { block := w.heap.size, off := 1 }), Go.Value.slice (some { block := bR, off := offR }) rows.length C2, Go.Value.func (Go.Fn.func 61) #[] #[Go.Value.pointer (some { block := w13.heap.size, off := 0 })], rowV x.1, rowV x.2, undef, undef, undef, undef, undef, undef, undef, undef, undef, undef, undef, undef, undef, undef, undef, undef, undef, undef, undef, undef, undef, undef, undef, undef, undef, undef, undef], defers := [] })
    (fun x W => (W.alloc (.cells #[.int .i64 x.1.seq, .int .i64 x.1.time, .string ⟨x.1.line.toArray⟩] 45)).alloc (.cells #[.int .i64 x.2.seq, .int .i64 x.2.time, .string ⟨x.2.line.toArray⟩] 45))
    (fun x W => ((Below.refl _ W).alloc (Nat.le_refl _) _).alloc (by rw [World.size_alloc]; omega) _) ?assign ?body ?done ?stop)
  case assign =>
    intro l x Wi K _ hK
    unfold rowV at hK ⊢
    gi_wp2
    exact hK
  case body =>
    rintro l pre x rest b W0' Wi hx hb1 hb2 hbs hrows hI
    rw [HI0.out] at hI
    obtain ⟨hP, hpb⟩ := hI
    have hmem : x ∈ prs rows 0 := by rw [hx]; simp
    obtain ⟨m1', m2'⟩ := prs_mem hmem
    have hE1 := HE.out _ m1'
    have hE2 := HE.out _ m2'
    have hlt := cmpE_time (of_decide_eq_true (List.all_eq_true.1 HRB.out x hmem))
    have hlen : (hd ++ pre.flatMap pairB).length ≤ 2097152 := by
      have hpl : pre.length ≤ 1000 := by
        have h1 := prs_len rows 0
        have h2 := congrArg List.length hx
        simp at h2
        have := HN.out.2
        omega
      have hf := flat_len (l := pre) (fun p hp => by
        have hm : p ∈ prs rows 0 := by rw [hx]; simp [hp]
        obtain ⟨p1, p2⟩ := prs_mem hm
        have q1 := HE.out _ p1
        have q2 := HE.out _ p2
        have qt := cmpE_time (of_decide_eq_true (List.all_eq_true.1 HRB.out p hm))
        exact pairB_len p (by omega) (by omega) (by omega) q2.2.2.1)
      rw [List.length_append, HHDL.out]
      have hl2 := HL1.out
      have : pre.length * 1048 ≤ 1000 * 1048 := Nat.mul_le_mul_right _ hpl
      omega
    have r8 : Wi.heap[b]? = some (.cells #[.int .i64 x.1.seq, .int .i64 x.1.time, .string ⟨x.1.line.toArray⟩] 45 (0, 0)) := by subst hb2; exact (hrows _ (Nat.le_refl _)).trans (heap_alloc2_old _ _ _)
    have r9 : Wi.heap[b + 1]? = some (.cells #[.int .i64 x.2.seq, .int .i64 x.2.time, .string ⟨x.2.line.toArray⟩] 45 (0, 0)) := by subst hb2; exact (hrows _ (by omega)).trans (heap_alloc2_new _ _ _)
    have hg14 := HG13.out.1
    obtain ⟨Q, hQ⟩ : ∃ Q : List Nat → World → Prop, Q = (fun l wx => Ps w cs w.heap.size w2.heap.size l wx ∧ wx.heap[b]? = some (.cells #[.int .i64 x.1.seq, .int .i64 x.1.time, .string ⟨x.1.line.toArray⟩] 45 (0, 0)) ∧ wx.heap[b + 1]? = some (.cells #[.int .i64 x.2.seq, .int .i64 x.2.time, .string ⟨x.2.line.toArray⟩] 45 (0, 0)) ∧ wx.heap[w13.heap.size]? = some (.cells #[.slice (some ⟨bR, offR, none⟩) rows.length C2] 37 (0, 0)) ∧ KeptS (fun k => k < w2.heap.size ∨ k = w13.heap.size) w14.heap.size Wi wx) := ⟨_, rfl⟩
    have q0 : Hid (Q (hd ++ pre.flatMap pairB) Wi) := hid (by rw [hQ]; exact ⟨hP, r8, r9, hpb, KeptS.refl _ _⟩)
    have qb : ∀ l wx wy, Hid (Q l wx) → Below wx.heap.size wx wy → Hid (Q l wy) := fun l wx wy h bb => by
      have h := h.out
      rw [hQ] at h
      refine hid ?_
      rw [hQ]
      exact ⟨h.1.below bb, (bb.block _ (row_lt h.2.1)).trans h.2.1, (bb.block _ (row_lt h.2.2.1)).trans h.2.2.1, (bb.block _ (row_lt h.2.2.2.1)).trans h.2.2.2.1, h.2.2.2.2.trans (KeptS.of_below bb)⟩
    have qa : ∀ l m wx u, Hid (Q l wx) → KB.Rd wx u m → l.length + m.length ≤ 70368744177664 → Calls Tryd.prog 54 #[.pointer (some ⟨w2.heap.size, 0, none⟩), u, .int .i64 0] wx fun e w' => e = .returned (.tuple #[]) ∧ Hid (Q (l ++ m) w') := fun l m wx u h hu hl => by
      have h := h.out
      rw [hQ] at h
      refine (HA.out l m wx u (hid h.1) hu hl).mono ?_
      rintro e w' ⟨rfl, P, G⟩
      refine ⟨rfl, hid ?_⟩
      rw [hQ]
      exact ⟨P.out, G.out.cells _ (by omega) _ _ (by decide) h.2.1, G.out.cells _ (by omega) _ _ (by decide) h.2.2.1, G.out.cells _ (by omega) _ _ (by decide) h.2.2.2.1, h.2.2.2.2.trans (G.out.kept h.2.2.2.1 (by decide) (by omega))⟩
    have qc : ∀ l wx, Hid (Q l wx) → (wx.cell? ⟨b, 0, none⟩ = some (.int .i64 x.1.seq) ∧ wx.cell? ⟨b, 1, none⟩ = some (.int .i64 x.1.time)) ∧ wx.cell? ⟨b + 1, 0, none⟩ = some (.int .i64 x.2.seq) ∧ wx.cell? ⟨b + 1, 1, none⟩ = some (.int .i64 x.2.time) ∧ wx.cell? ⟨b + 1, 2, none⟩ = some (.string ⟨x.2.line.toArray⟩) := fun l wx h => by
      have h := h.out
      rw [hQ] at h
      exact ⟨⟨held_cell h.2.1 rfl, held_cell h.2.1 rfl⟩, held_cell h.2.2.1 rfl, held_cell h.2.2.1 rfl, held_cell h.2.2.1 rfl⟩
    have qe : ∀ wx, Hid (Q ((hd ++ pre.flatMap pairB) ++ num (x.2.time - x.1.time).toNat ++ num (zig (x.2.seq - x.1.seq)) ++ txt ⟨x.2.line.toArray⟩) wx) → KeptS (fun k => k < w2.heap.size ∨ k = w13.heap.size) w14.heap.size Wi wx ∧ I (pre ++ [x]) wx := fun wx h => by
      have h := h.out
      rw [hQ] at h
      refine ⟨h.2.2.2.2, ?_⟩
      rw [HI0.out]
      refine ⟨?_, h.2.2.2.1⟩
      have e : hd ++ (pre ++ [x]).flatMap pairB = (hd ++ pre.flatMap pairB) ++ num (x.2.time - x.1.time).toNat ++ num (zig (x.2.seq - x.1.seq)) ++ txt ⟨x.2.line.toArray⟩ := by simp [pairB]
      rw [e]
      exact h.1
    have zt : IntKind.i64.wrap (x.2.time - x.1.time) = x.2.time - x.1.time := by rw [IntKind.wrap_i64]; omega
    have zs : IntKind.i64.wrap (x.2.seq - x.1.seq) = x.2.seq - x.1.seq := by rw [IntKind.wrap_i64]; omega
    have M1 := fun wx => Number_yes (x.2.time - x.1.time) wx (by omega) (by omega)
    have M2 := fun wx => Signed_yes (x.2.seq - x.1.seq) wx (by omega) (by omega)
    have hls2 : (⟨x.2.line.toArray⟩ : ByteArray).size = x.2.line.length := Lib.size_mk _
    have M3 := fun wx => Text_yes ⟨x.2.line.toArray⟩ wx (by omega)
    have l1 := num_len8 (n := (x.2.time - x.1.time).toNat) (by omega)
    have l2 := num_len8 (n := zig (x.2.seq - x.1.seq)) (zig_lt (by omega) (by omega))
    have l3 := txt_len2 ⟨x.2.line.toArray⟩ (by omega)
    have HLL : Hid ((hd ++ pre.flatMap pairB).length ≤ 2097152 ∧ (num (x.2.time - x.1.time).toNat).length ≤ 8 ∧ (num (zig (x.2.seq - x.1.seq))).length ≤ 8 ∧ (txt ⟨x.2.line.toArray⟩).length ≤ 1032) := hid ⟨hlen, l1, l2, by omega⟩
    generalize num (x.2.time - x.1.time).toNat = k1 at *
    generalize num (zig (x.2.seq - x.1.seq)) = k2 at *
    generalize txt ⟨x.2.line.toArray⟩ = k3 at *
    generalize hd ++ pre.flatMap pairB = base at *
    obtain ⟨⟨c1, c2⟩, c3, c4, c5⟩ := qc _ _ q0
    have QA := hid qa
    have QB := hid qb
    have QC := hid qc
    have QE := hid qe
    clear hP hpb hmem m1' m2' hE1 hE2 hlt hlen r8 r9 hQ qa qb qc qe hls2 l1 l2 l3 hx hrows hbs hseq hb1 hb2 hg14 hz14
    have fn1 : Fence.wide.fn 56 := trivial
    have fn2 : Fence.wide.fn 54 := trivial
    have fn3 : Fence.wide.fn 57 := trivial
    have fn4 : Fence.wide.fn 55 := trivial
    unfold rowV
    gi_wp2_with (first
      | (gi_at_call 56; refine callsIn_round ((M1 _).mono ?_); rintro e u4 h4; obtain ⟨v20, rfl, d20, b20⟩ := made_kb h4; have Q1 := QB.out _ _ _ q0 b20; clear h4 M1 c1 c2 c3 c4 c5)
      | (gi_at_call 54; refine callsIn_round ((QA.out _ _ _ _ Q1 d20 (by have := HLL.out; omega)).mono ?_); rintro e u5 ⟨rfl, Q2⟩; obtain ⟨⟨c1, c2⟩, c3, c4, c5⟩ := QC.out _ _ Q2; clear d20 b20 Q1)
      | (gi_at_call 57; refine callsIn_round ((M2 _).mono ?_); rintro e u6 h6; obtain ⟨v22, rfl, d22, b22⟩ := made_kb h6; have Q3 := QB.out _ _ _ Q2 b22; clear h6 M2 c1 c2 c3 c4 c5)
      | (gi_at_call 54; refine callsIn_round ((QA.out _ _ _ _ Q3 d22 (by have := HLL.out; simp; omega)).mono ?_); rintro e u7 ⟨rfl, Q4⟩; obtain ⟨⟨c1, c2⟩, c3, c4, c5⟩ := QC.out _ _ Q4; clear d22 b22 Q3)
      | (gi_at_call 55; refine callsIn_round ((M3 _).mono ?_); rintro e u8 h8; obtain ⟨v24, rfl, d24, b24⟩ := made_kb h8; have Q5 := QB.out _ _ _ Q4 b24; clear h8 M3 c1 c2 c3 c4 c5)
      | (gi_at_call 54; refine callsIn_round ((QA.out _ _ _ _ Q5 d24 (by have := HLL.out; simp; omega)).mono ?_); rintro e u9 ⟨rfl, Q6⟩; clear d24 b24 Q5))

    have QF := QE.out _ Q6
    exact ⟨QF.1.mono (by omega), QF.2⟩
  case done =>
    rintro D Wi hD hI hK
    rw [HI0.out] at hI
    have hDn := Done_is hI.1.wq
    have hst : Stl w.heap.size Wi (Wi.putObj D (.deferred none)) := Stl.putObj _ hK rfl (by omega)
    have hfin := hI.1.stl hst (Nat.le_refl _)
    have HF := hid (And.intro hst hfin)
    have hcb : hd ++ (prs rows 0).flatMap pairB = chB labs rows := by unfold chB; rw [HHD.out, hhd]
    rw [hcb] at hDn
    clear hI hseq hst hfin hcb
    unfold markD
    go_wp2_with (go_at_call 58; refine hDn.mono ?_; rintro e w15 ⟨v15, rfl, o15, hw15⟩; have hw15 := hw15.symm; subst hw15; clear hDn)
    refine ⟨by simp, .inl ⟨_, _, rfl, run_takeDeferred hK, ?_⟩⟩
    refine ⟨_, results_tmp2 rfl _ _ _, v15, rfl, ?_, HF.out.2.bel⟩
    have hg2 := HF.out.2.bg
    refine Kd.Own.mono (K := KB) (B := w2.heap.size + 1) ?_ (by omega)
    refine ⟨o15.1, ?_⟩
    rcases o15.2 with h | ⟨g', cap, cur, hv, hb, hg, r⟩
    · exact .inl h
    · exact .inr ⟨g', cap, cur, hv, hb, HF.out.1.2 _ _ _ _ hg, r⟩
  case stop =>
    rintro D Wi hD hI hK
    exact hI.elim
end Go.Proofs.YtaoeabnpmpimgaaDoor
end
