/-
  The heap of heads in memory: Push and Pop. Conditions: those that each theorem names.
-/
import Derived.Test.YtcffagfkpkfgbaaMgs
namespace Go.Icz
open Go.RowKit
theorem Hp.setv {W0 w : World} {q : Nat} {rs : List Value} {nb : Bool} {v v' : Value} {l l' : List HR} (h : Hp W0 w q rs nb v l) (own : KRow.Own w W0.heap.size v' l') (hq : v'.ownBlock ≠ some q) (hl : ∀ r ∈ l', r.l ≠ [] ∧ KEnt.Rd W0 (.slice r.A r.l.length r.c) r.l) (hn : l'.length ≤ 1099511627776) :
    Hp W0 (w.setCell ⟨q, 0, none⟩ v') q rs nb v' l' := by
  have t := Tch.set (· = q) w ⟨q, 0, none⟩ v' rfl
  obtain ⟨ty, h1, h4⟩ := h.at_
  exact ⟨⟨ty, row_set h1 v', h4⟩, own.touch t (fun j hj => by rw [hj]; exact hq), h.lo, Tch.below h.bel t (fun j hj => by rw [hj]; exact h.lo) h.bel.size, hl, hn⟩
/-- The block holds rows of a heap. -/
def isRow (w : World) (k : Nat) : Prop := ∃ cur z, w.heap[k]? = some (.cells cur 58 z)
/-- What has turned lies in E, or in a heap's rows. -/
def Fr (E : Nat → Prop) (w w' : World) : Prop := Tch (fun k => E k ∨ isRow w k) w w'
theorem Fr.refl (E : Nat → Prop) (w : World) : Fr E w w := Tch.refl _ w
theorem Fr.trans {E : Nat → Prop} {a b c : World} (h : Fr E a b) (k : Fr E b c) : Fr E a c :=
  ⟨k.os.trans h.os, k.tape.trans h.tape, k.output.trans h.output, Nat.le_trans h.size k.size, fun j hj hn => by
    have e := h.block j hj hn
    exact (k.block j (Nat.lt_of_lt_of_le hj h.size) (fun hs => hn (hs.imp id (fun ⟨cur, z, hc⟩ => ⟨cur, z, e ▸ hc⟩)))).trans e⟩
theorem Fr.of_below {E : Nat → Prop} {w w' : World} (h : Below w.heap.size w w') : Fr E w w' := Tch.of_below h
theorem Fr.mono {E E' : Nat → Prop} {w w' : World} (h : Fr E w w') (hE : ∀ k, E k → E' k) : Fr E' w w' := Tch.mono h (fun k hk => hk.imp (hE k) id)
theorem Fr.of_tch {E : Nat → Prop} {S : Nat → Prop} {w w' : World} (h : Tch S w w') (hS : ∀ k, S k → E k ∨ isRow w k) : Fr E w w' := Tch.mono h hS
theorem Fr.set {E : Nat → Prop} (w : World) (p : Addr) (u : Value) (hp : E p.block) : Fr E w (w.setCell p u) := Tch.set _ w p u (.inl hp)
theorem Fr.row {E : Nat → Prop} {w w' : World} (h : Fr E w w') {b : Nat} {cs : Array Value} {t : TypeId} {z : Nat × Nat} (hr : w.heap[b]? = some (.cells cs t z)) (hn : ¬ E b) (ht : t ≠ 58) : w'.heap[b]? = some (.cells cs t z) :=
  Tch.row h hr (fun hs => hs.elim hn (fun ⟨cur, z', hc⟩ => by rw [hr] at hc; injection hc with hc; injection hc with _ h2 _; exact ht h2))
theorem Hp.isRow {W0 w : World} {q : Nat} {rs : List Value} {nb : Bool} {v : Value} {l : List HR} (h : Hp W0 w q rs nb v l) {k : Nat} (hk : v.ownBlock = some k) : isRow w k := by
  rcases h.own.2 with ⟨rfl, _⟩ | ⟨g, cap, cur, rfl, _, hh, _⟩
  · cases hk
  · injection hk with hk
    have hk : g = k := hk
    subst hk
    exact ⟨cur, _, hh⟩
theorem Hp.pushed {W0 w w1 w' : World} {q : Nat} {rs : List Value} {nb : Bool} {v v' : Value} {l l' : List HR} (h : Hp W0 w q rs nb v l) (hb : Below w.heap.size w w1) (ho : KRow.Own w' W0.heap.size v' l') (hg : w1.grownBy w' v.ownBlock) (hl : ∀ r ∈ l', r.l ≠ [] ∧ KEnt.Rd W0 (.slice r.A r.l.length r.c) r.l) (hn : l'.length ≤ 1099511627776) :
    Hp W0 (w'.setCell ⟨q, 0, none⟩ v') q rs nb v' l' ∧ Fr (· = q) w (w'.setCell ⟨q, 0, none⟩ v') := by
  have h1 := h.below hb
  have hne : v.ownBlock ≠ some q := fun e => (h.apart q e) rfl
  have t1 : Tch (fun k => v.ownBlock = some k) w1 w' := Tch.grown hg (fun k hk => hk)
  have lo : ∀ k, v.ownBlock = some k → W0.heap.size ≤ k := fun k hk => (h.own.lt k hk).1
  have b2 := Tch.below h1.bel t1 lo h1.bel.size
  obtain ⟨ty, a1, a4⟩ := h1.at_
  have a1' := t1.row a1 hne
  have hq' : v'.ownBlock ≠ some q := by
    intro e
    rcases ho.2 with ⟨rfl, _⟩ | ⟨g, cap, cur, rfl, _, hh, _⟩
    · cases e
    · injection e with e
      have e : g = q := e
      subst e
      rw [a1'] at hh
      injection hh with hh
      injection hh with _ h3 _
      exact a4 h3
  have t := Tch.set (· = q) w' ⟨q, 0, none⟩ v' rfl
  refine ⟨⟨⟨ty, row_set a1' v', a4⟩, ho.touch t (fun j hj => by rw [hj]; exact hq'), h.lo, Tch.below b2 t (fun j hj => by rw [hj]; exact h.lo) b2.size, hl, hn⟩, ?_⟩
  exact (Fr.of_below hb).trans ((Fr.of_tch t1 (fun k hk => .inr (h1.isRow hk))).trans (Fr.set w' ⟨q, 0, none⟩ v' rfl))
theorem Kd.Own.cut {α : Type} {K : Kd α} {w : World} {B g n cap : Nat} {l m : List α} (h : K.Own w B (.slice (some ⟨g, 0, none⟩) n cap) (l ++ m)) : K.Own w B (.slice (some ⟨g, 0, none⟩) l.length cap) l := by
  rcases h.2 with ⟨h', _⟩ | ⟨g', cap', cur, hv, hg, hh, hnc, hcm, hcs, ht⟩
  · cases h'
  · injection hv with e1 e2 e3
    injection e1 with e1
    injection e1 with e1
    subst e1 e3
    rw [List.length_append] at hnc ht
    refine ⟨K.cells_len l, .inr ⟨g, cap, cur, rfl, hg, hh, by omega, hcm, hcs, ?_⟩⟩
    have := congrArg (List.take (l.length * K.z)) ht
    rw [List.take_take, Nat.min_eq_left (Nat.mul_le_mul_right _ (by omega)), K.cells_app, List.take_left' (K.cells_len l)] at this
    exact this
end Go.Icz
namespace Go.Proofs.Ytcffagfkpkfgbaa
open Go.RowKit Go.Icz
/-- A row as an interface's value. -/
def rowI (r : HR) : Value := .iface 58 (.agg #[.slice r.A r.l.length r.c, .int .i64 (r.p : Int)])
set_option maxRecDepth 100000 in
set_option maxHeartbeats 2000000 in
theorem Pop_is {W0 w : World} {q : Nat} {rs : List Value} {nb : Bool} {v : Value} {l : List HR} {r : HR} (h : Hp W0 w q rs nb v (l ++ [r])) :
    Calls Try.prog 55 #[.pointer (some ⟨q, 0, none⟩)] w fun e w' => e = .returned (rowI r) ∧ ∃ v', Hp W0 w' q rs nb v' l ∧ Fr (· = q) w w' := by
  obtain ⟨g, cap, rfl, hg, hcap, _, hx⟩ := h.own.block (by simp)
  clear hx
  have c0 := h.c0
  have hl : l.length < (l ++ [r]).length := by simp
  obtain ⟨a0, a1, _, _⟩ := h.row hl
  have e : (l ++ [r])[l.length] = r := by simp
  rw [e] at a0 a1
  have f0 := h.f0 0
  have hgq := h.apart g rfl
  have hlen := h.len
  have hs : Hp W0 (w.setCell ⟨q, 0, none⟩ (.slice (some ⟨g, 0, none⟩) l.length cap)) q rs nb (.slice (some ⟨g, 0, none⟩) l.length cap) l :=
    h.setv h.own.cut (fun e => hgq (by injection e)) (fun x hx => h.rd x (List.mem_append.2 (.inl hx))) (by simp at hlen; omega)
  have fin : ∀ o, Hp W0 ((w.setCell ⟨q, 0, none⟩ (.slice (some ⟨g, 0, none⟩) l.length cap)).alloc o) q rs nb (.slice (some ⟨g, 0, none⟩) l.length cap) l ∧ Fr (· = q) w ((w.setCell ⟨q, 0, none⟩ (.slice (some ⟨g, 0, none⟩) l.length cap)).alloc o) := fun o =>
    ⟨hs.below ((Below.refl _ _).alloc (Nat.le_refl _) o), (Fr.set (E := (· = q)) w ⟨q, 0, none⟩ _ rfl).trans (Fr.of_below ((Below.refl _ _).alloc (Nat.le_refl _) o))⟩
  clear hs
  have hb := fun o : Obj => heap_alloc_new w o
  have hqs : q < w.heap.size := h.lt
  clear h
  rw [List.length_append, List.length_singleton] at c0 hlen hcap
  generalize l.length = n at *
  unfold rowI
  have y0 := fun o => cell_alloc c0 o
  go_enter Try.func55, Try.ntmps55
  go_wp2
  go_ret
  exact ⟨rfl, _, (fin _).1, (fin _).2⟩
theorem infoR : (Try.prog.info? 58).map (fun i => (i.zero, i.size, i.bytes)) = some (some (.agg #[.slice none 0 0, .int .i64 0]), 2, 32) := by kernel_rfl
set_option maxRecDepth 100000 in
set_option maxHeartbeats 2000000 in
theorem Push_is {W0 w : World} {q : Nat} {rs : List Value} {nb : Bool} {v : Value} {l : List HR} {r : HR} (h : Hp W0 w q rs nb v l) (hr : r.l ≠ [] ∧ KEnt.Rd W0 (.slice r.A r.l.length r.c) r.l) (hl : l.length < 1099511627776) :
    Calls Try.prog 56 #[.pointer (some ⟨q, 0, none⟩), rowI r] w fun e w' => e = .returned (.tuple #[]) ∧ ∃ v', Hp W0 w' q rs nb v' (l ++ [r]) ∧ Fr (· = q) w w' := by
  have c0 := h.c0
  have c0a := fun o => cell_alloc c0 o
  have f0 := h.f0 0
  have hq := h.lt
  have hta : (Instr.typeAssert (rowI r) 20 58 false).run Try.prog w.drew = .ok (.agg #[.slice r.A r.l.length r.c, .int .i64 (r.p : Int)]) w.drew := by kernel_rfl
  unfold rowI at *
  have ow := fun o => h.own.alloc o
  have fin : ∀ (o : Obj) v' w', KRow.Own w' W0.heap.size v' (l ++ [r]) → (w.drew.alloc o).grownBy w' v.ownBlock → Hp W0 (w'.setCell ⟨q, 0, none⟩ v') q rs nb v' (l ++ [r]) ∧ Fr (· = q) w (w'.setCell ⟨q, 0, none⟩ v') := by
    intro o v' w' ho hg
    refine h.pushed ((Below.refl _ w).drew.alloc (Nat.le_refl _) o) ho hg (fun x hx => ?_) (by simp; omega)
    rcases List.mem_append.1 hx with h' | h'
    · exact h.rd x h'
    · obtain rfl := List.mem_singleton.1 h'
      exact hr
  have hbs := h.bel.size
  have hcell : ∀ (o : Obj) w', (w.drew.alloc o).grownBy w' v.ownBlock → w'.cell? ⟨q, 0, none⟩ = some v ∧ w'.frozen? ⟨q, 0, none⟩ = false := by
    intro o w' hg
    have hne : some q ≠ v.ownBlock := fun e => (h.apart q e.symm) rfl
    have e := (hg.block q (by simp; omega) hne).trans (heap_alloc_old w.drew o hq)
    exact ⟨(World.cell?_of_block e).trans c0, (World.frozen?_of_block e).trans f0⟩
  clear h
  go_enter Try.func56, Try.ntmps56
  go_wp2
  go_region_law (refine Kd.step_app1 rfl (.tmp 8) (.tmp 11) 44 rfl Try.underlying44 infoR rfl W0.heap.size v l r rfl (ow _) w.heap.size (heap_alloc_new w.drew _) rfl (by unfold maxLen; omega) (by omega) (by simp; omega) ?_; intro v6 w6 o6 b6 g6; obtain ⟨c6, f6⟩ := hcell _ _ g6; have F6 := fin _ _ _ o6 g6; obtain ⟨A6, k6, rfl, _⟩ := o6.rd.form; simp only [List.length_append, List.length_singleton] at F6; clear b6 g6)
  all_goals go_wp2_with fail
  all_goals go_end0
  all_goals exact ⟨rfl, _, F6.1, F6.2⟩
end Go.Proofs.Ytcffagfkpkfgbaa
