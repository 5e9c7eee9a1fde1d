/-
  What the law's Own of an entry answers. Conditions: the entry can be read; sizes as each theorem names.
  What the writer's add and done answer, record.Put and record.Size. Conditions: those that each theorem names.
-/
import Derived.Test.YtaoeabnpmpimgaaDoorEnt
import Derived.Test.YtaoeabnpmpimgaaDoorLRead
import Derived.Deep.QuietTactic
import Derived.BigQuiet
section
namespace Go.Proofs.YtaoeabnpmpimgaaDoor
open Go.RowKit Go.Icz
theorem two_new {w w1 : World} {o1 o2 : Obj} (b : Below ((w.alloc o1).alloc o2).heap.size ((w.alloc o1).alloc o2) w1) : w1.heap[w.heap.size]? = some o1 ∧ w1.heap[w.heap.size + 1]? = some o2 := by
  have h1 := b.block w.heap.size (by simp; omega)
  have h2 := b.block (w.heap.size + 1) (by simp)
  refine ⟨h1.trans ?_, h2.trans ?_⟩
  · show ((w.heap.push o1).push o2)[w.heap.size]? = some o1
    simp [Array.getElem?_push]
  · have h := heap_alloc_new (w.alloc o1) o2
    rwa [World.size_alloc] at h
/-- It answers an entry that reads as x, in new memory. -/
def EntOut (x : Ent) (w : World) (e : Ending) (w' : World) : Prop :=
  ∃ A c, e = .returned (entV x A c) ∧ OwnL w' w.heap.size (.slice A x.labs.length c) x.labs ∧ Below w.heap.size w w'
set_option maxHeartbeats 2000000 in
set_option maxRecDepth 100000 in
theorem EOwn_is (x : Ent) (A : Option Addr) (c : Nat) (w : World) (hR : RdL w (.slice A x.labs.length c) x.labs) (hz : x.labs.length * 32 ≤ 140737488351232) :
    Calls Tryd.prog 19 #[entV x A c] w (EntOut x w) := by
  have hO := fun w1 (g : RdL w1 (.slice A x.labs.length c) x.labs) => Own_own _ x.labs w1 g (by omega)
  unfold entV
  have hR1 := fun o o2 => (hR.alloc o).alloc o2
  clear hR
  go_enter Tryd.func19, Tryd.ntmps19
  go_wp2_with (go_at_call 34; refine (hO _ (hR1 _ _)).mono ?_; rintro e w1 ⟨v1, rfl, r1, b1⟩; have hh := two_new b1; obtain ⟨A1, c1, rfl, hc1, _⟩ := r1.rd; have q0 := held_cell (i := 0) hh.1 rfl; have q1 := held_cell (i := 1) hh.1 rfl; have q2 := held_cell (i := 2) hh.1 rfl; have q3 := held_cell (i := 3) hh.1 rfl; have p0 := held_cell (i := 0) hh.2 rfl; have p1 := held_cell (i := 1) hh.2 rfl; have p2 := held_cell (i := 2) hh.2 rfl; have p3 := held_cell (i := 3) hh.2 rfl; have fq := held_frozen (i := 2) hh.1; have f0 := held_frozen (i := 0) hh.2; have f1 := held_frozen (i := 1) hh.2; have f2 := held_frozen (i := 2) hh.2; have f3 := held_frozen (i := 3) hh.2; clear hO hR1 hh)
  have gg : ∀ (u0 u1 u2 u3 u4 : Value), OwnL (((((w1.setCell ⟨w.heap.size, 2, none⟩ u0).setCell ⟨w.heap.size + 1, 0, none⟩ u1).setCell ⟨w.heap.size + 1, 1, none⟩ u2).setCell ⟨w.heap.size + 1, 2, none⟩ u3).setCell ⟨w.heap.size + 1, 3, none⟩ u4) w.heap.size (.slice A1 x.labs.length c1) x.labs ∧ Below w.heap.size w (((((w1.setCell ⟨w.heap.size, 2, none⟩ u0).setCell ⟨w.heap.size + 1, 0, none⟩ u1).setCell ⟨w.heap.size + 1, 1, none⟩ u2).setCell ⟨w.heap.size + 1, 2, none⟩ u3).setCell ⟨w.heap.size + 1, 3, none⟩ u4) := by
    intro u0 u1 u2 u3 u4
    have hsz : ((w.alloc (.cells #[.int .i64 x.seq, .int .i64 x.time, .slice A x.labs.length c, .string ⟨x.line.toArray⟩] 50)).alloc (.cells #[.int .i64 0, .int .i64 0, .slice none 0 0, .string ⟨#[]⟩] 50)).heap.size = w.heap.size + 2 := by simp
    rw [hsz] at r1
    refine ⟨(OwnL.grown (OwnL.grown (OwnL.grown (OwnL.grown (OwnL.grown r1 (grown_set _ _ _ u0) (by omega)) (grown_set _ _ _ u1) (by omega)) (grown_set _ _ _ u2) (by omega)) (grown_set _ _ _ u3) (by omega)) (grown_set _ _ _ u4) (by omega)).mono (by omega), ?_⟩
    have b0 : Below w.heap.size w w1 := (((Below.refl _ _).alloc (Nat.le_refl _) _).alloc (by simp) _).trans (b1.mono (by simp; omega))
    exact ((((b0.setCell (Nat.le_refl _) _).setCell (Nat.le_succ _) _).setCell (Nat.le_succ _) _).setCell (Nat.le_succ _) _).setCell (Nat.le_succ _) _
  exact bodyPost_ret (v := entV x A1 c1) (by simp [results, Tryd.results19, go_sem, entV, *]) rfl ⟨A1, c1, rfl, (gg _ _ _ _ _).1, (gg _ _ _ _ _).2⟩
end Go.Proofs.YtaoeabnpmpimgaaDoor
end
section
namespace Go.Icz
open Go.RowKit
/-- A writer in block g: its bytes lie in a row of their own from B on; its error. -/
def WrAt (w : World) (B g : Nat) (l : List Nat) (er : Nat) : Prop :=
  ∃ v, g < B ∧ g < w.heap.size ∧ w.cell? ⟨g, 0, none⟩ = some v ∧ w.cell? ⟨g, 1, none⟩ = some (.int .i64 (er : Int)) ∧ w.frozen? ⟨g, 0, none⟩ = false ∧ w.frozen? ⟨g, 1, none⟩ = false ∧ Own w B v l
end Go.Icz
namespace Go.Proofs.YtaoeabnpmpimgaaDoor
open Go.RowKit Go.Icz
/-- The entry's bytes. -/
def entB (x : Ent) : List Nat := num x.seq.toNat ++ num x.time.toNat ++ txt (str (bytesN x.labs)) ++ txt ⟨x.line.toArray⟩
theorem Own.grown {w w' : World} {B g : Nat} {v : Value} {l : List Nat} (h : Own w B v l) (hg : w.grownBy w' (some g)) (hB : g < B) : Own w' B v l := by
  refine World.ownsRow.kept h hg ?_
  rcases h.2 with ⟨rfl, _⟩ | ⟨k, cap, cur, rfl, hk, _⟩
  · exact .inl rfl
  · exact .inr (by simp [Value.ownBlock]; omega)
set_option maxHeartbeats 2000000 in
set_option maxRecDepth 100000 in
theorem Eadd_is (B g : Nat) (l m : List Nat) (u : Value) (w : World) (hW : WrAt w B g l 0) (hu : Rd w u m) (hlen : l.length + m.length ≤ 140737488355328) (hB : B ≤ w.heap.size) :
    Calls Tryd.prog 54 #[.pointer (some ⟨g, 0, none⟩), u, .int .i64 0] w fun e w' => e = .returned (.tuple #[]) ∧ WrAt w' B g (l ++ m) 0 ∧ Below g w w' := by
  obtain ⟨v, h1, h2, c0, c1, f0, f1, ho⟩ := hW
  have hv := ho.rd
  obtain ⟨A, c, rfl, hc, _⟩ := hv
  have hu' := hu
  obtain ⟨A2, c2, rfl, hc2, _⟩ := hu'
  go_enter Tryd.func54, Tryd.ntmps54
  go_wp2_with (at_builtin; go_loud (refine wp_appR std rfl (.tmp 16) (.tmp 17) rfl B _ _ l m rfl ho rfl hu hlen hB ?_; intro v1 w1 o1 b1; obtain ⟨A1, c1', rfl, hc1, _⟩ := o1.rd; have d0 := (b1.cell (p := ⟨g, 0, none⟩) h1).trans c0; have d1 := (b1.cell (p := ⟨g, 1, none⟩) h1).trans c1; have e0 := (b1.frozen (p := ⟨g, 0, none⟩) h1).trans f0; have e1 := (b1.frozen (p := ⟨g, 1, none⟩) h1).trans f1))
  have hsz : w.heap.size ≤ w1.heap.size := b1.size
  have gg : ∀ (u0 u1 : Value), w1.grownBy ((w1.setCell ⟨g, 0, none⟩ u0).setCell ⟨g, 1, none⟩ u1) (some g) := fun u0 u1 => World.grownBy.trans (grown_set w1 g 0 u0) (grown_set _ g 1 u1)
  have hW : WrAt ((w1.setCell ⟨g, 0, none⟩ (.slice A1 (l.length + m.length) c1')).setCell ⟨g, 1, none⟩ (.int .i64 0)) B g (l ++ m) 0 := by
    refine ⟨.slice A1 (l.length + m.length) c1', h1, by simp [World.setCell]; omega, ?_, ?_, by simpa using e0, by simpa using e1, ?_⟩
    · rw [World.cell?_setCell_other _ _ _ _ (by simp)]
      exact World.cell?_setCell_same' w1 _ _ (by rw [d0]; rfl)
    · refine World.cell?_setCell_same' _ _ _ ?_
      rw [World.cell?_setCell_other _ _ _ _ (by simp), d1]; rfl
    · simp only [List.length_append] at o1
      exact Own.grown o1 (gg _ _) h1
  exact bodyPost_end (v := .tuple #[]) (by simp [results, Tryd.results54, go_sem]) rfl ⟨rfl, hW, ((b1.mono (Nat.le_of_lt h1)).setCell (Nat.le_refl _) _).setCell (Nat.le_refl _) _⟩
set_option maxRecDepth 100000 in
theorem Edone_is (B g : Nat) (l : List Nat) (w : World) (hW : WrAt w B g l 0) :
    Calls Tryd.prog 58 #[.pointer (some ⟨g, 0, none⟩)] w fun e w' => ∃ v, e = .returned (.tuple #[v, .int .i64 0]) ∧ Own w' B v l ∧ w = w' := by
  obtain ⟨v, h1, h2, c0, c1, f0, f1, ho⟩ := hW
  have hv := ho.rd
  obtain ⟨A, c, rfl, hc, _⟩ := hv
  go_enter Tryd.func58, Tryd.ntmps58
  go_wp2
  go_ret2
  exact ⟨_, rfl, ho, rfl⟩
theorem bytesL_len : ∀ (l : List Lab), (∀ x ∈ l, x.1.length ≤ 128 ∧ x.2.length ≤ 128) → (bytesL l).length ≤ 272 * l.length
  | [], _ => by simp [bytesL]
  | x :: t, h => by
    have h1 := bytesL_len t (fun y hy => h y (List.mem_cons_of_mem _ hy))
    have h2 := h x (List.mem_cons_self ..)
    have a1 := txt_len ⟨x.1.toArray⟩ (by rw [Lib.size_mk]; omega)
    have a2 := txt_len ⟨x.2.toArray⟩ (by rw [Lib.size_mk]; omega)
    simp only [bytesL, List.length_append, List.length_cons]
    omega
theorem bytesN_len {l : List Lab} (hr : rightS l = true) : (bytesN l).length ≤ 4400 := by
  obtain ⟨h16, hal⟩ := right_lens hr
  have h1 := bytesL_len l hal
  have h2 := num_len8 (n := l.length) (by omega)
  unfold bytesN
  rw [List.length_append]
  omega
theorem str_len (l : List Nat) : (str l).size = l.length := by
  unfold str
  rw [Lib.size_mk, List.length_map]
theorem txt_len2 (s : ByteArray) (h : s.size ≤ 65536) : (txt s).length ≤ s.size + 8 := by
  unfold txt
  have := num_len8 (n := s.size) (by omega)
  rw [List.length_append, nats_len]
  omega
theorem WrAt.below {w w' : World} {B g er : Nat} {l : List Nat} (h : WrAt w B g l er) (hb : Below w.heap.size w w') : WrAt w' B g l er := by
  obtain ⟨v, h1, h2, c0, c1, f0, f1, ho⟩ := h
  exact ⟨v, h1, Nat.lt_of_lt_of_le h2 hb.size, (hb.cell (p := ⟨g, 0, none⟩) h2).trans c0, (hb.cell (p := ⟨g, 1, none⟩) h2).trans c1, (hb.frozen (p := ⟨g, 0, none⟩) h2).trans f0, (hb.frozen (p := ⟨g, 1, none⟩) h2).trans f1, ho.below hb⟩
theorem WrAt.new (w : World) : WrAt (w.alloc (.cells #[.slice none 0 0, .int .i64 0] 98)) (w.heap.size + 1) w.heap.size [] 0 := by
  have h := heap_alloc_new w (.cells #[.slice none 0 0, .int .i64 0] 98)
  exact ⟨.slice none 0 0, Nat.lt_succ_self _, by simp, held_cell h rfl, held_cell h rfl, held_frozen h, held_frozen h, Own.nil _ _⟩
/-- The bytes of an entry that may be; an error else. -/
def EPutOut (x : Ent) (w : World) (e : Ending) (w' : World) : Prop :=
  ∃ v, e = .returned (.tuple #[v, .int .i64 (if entR x = true then 0 else 1)]) ∧ Rd w' v (if entR x = true then entB x else []) ∧ Below w.heap.size w w'
theorem box4 {w w1 : World} {a b c d : Value} {t : TypeId} (h : Below (w.alloc (.cells #[a, b, c, d] t)).heap.size (w.alloc (.cells #[a, b, c, d] t)) w1) : w1.heap[w.heap.size]? = some (.cells #[a, b, c, d] t (0, 0)) :=
  (h.block _ (by simp)).trans (heap_alloc_new w (.cells #[a, b, c, d] t))
theorem keep4 {w w1 : World} {k : Nat} {o : Obj} (h : w.heap[k]? = some o) (hb : Below w.heap.size w w1) : w1.heap[k]? = some o :=
  (hb.block k (Array.getElem?_eq_some_iff.1 h).1).trans h
end Go.Proofs.YtaoeabnpmpimgaaDoor
end
