/-
  What cache's list of nodes does: remove, add. Conditions: those that each theorem names.
-/
import Derived.Test.YtflhgoecmcfkkaaCch
import Derived.WalkKit
import Derived.Deep.QuietTactic
import Derived.BigQuiet
namespace Go.Proofs.Ytflhgoecmcfkkaa
open Go.RowKit Go.Icz
/-- The same memory. -/
abbrev Sm (a b : World) : Prop := Tch (fun _ => False) a b
theorem Sm.row {w w' : World} (k : Sm w w') {b : Nat} {cs : Array Value} {t : TypeId} {z : Nat × Nat} (h : w.heap[b]? = some (.cells cs t z)) : w'.heap[b]? = some (.cells cs t z) := Tch.row k h (fun h => h)
theorem Sm.chain {w w' : World} (k : Sm w w') {p x : Value} {l : List It} (h : Chain w p l x) : Chain w' p l x := h.touch k (fun _ _ h => h)
theorem Sm.out {S : Nat → Prop} {w w1 w' : World} (k : Sm w1 w') (h : Tch S w w1) : Tch S w w' := h.out k (fun _ h => h.elim)

set_option maxRecDepth 100000 in
theorem lremove_mm (s g a b : Nat) (li us hi mi : Int) (f l m : Value) (ke ka kb : ByteArray) (ve va pa vb nb : Value) (w : World)
    (hs : w.heap[s]? = some (.cells (shR li us hi mi f l m) 57 (0, 0)))
    (he : w.heap[g]? = some (.cells #[.string ke, ve, (.pointer (some ⟨a, 0, none⟩)), (.pointer (some ⟨b, 0, none⟩))] 71 (0, 0)))
    (ha : w.heap[a]? = some (.cells #[.string ka, va, pa, (.pointer (some ⟨g, 0, none⟩))] 71 (0, 0))) (h1 : a ≠ g)
    (hb : w.heap[b]? = some (.cells #[.string kb, vb, (.pointer (some ⟨g, 0, none⟩)), nb] 71 (0, 0))) (h2 : b ≠ g) :
    Calls Try.prog 38 #[.pointer (some ⟨s, 4, none⟩), .pointer (some ⟨g, 0, none⟩)] w fun e w' => e = .returned (.tuple #[]) ∧ Sm ((w.setCell ⟨a, 3, none⟩ (.pointer (some ⟨b, 0, none⟩))).setCell ⟨b, 2, none⟩ (.pointer (some ⟨a, 0, none⟩))) w' := by
  have c2 : w.cell? ⟨g, 2, none⟩ = some (.pointer (some ⟨a, 0, none⟩)) := held_cell he rfl
  have c3 : w.cell? ⟨g, 3, none⟩ = some (.pointer (some ⟨b, 0, none⟩)) := held_cell he rfl
  have e4 : w.cell? ⟨s, 4, none⟩ = some f := held_cell hs rfl
  have e5 : w.cell? ⟨s, 5, none⟩ = some l := held_cell hs rfl
  have g4 : w.frozen? ⟨s, 4, none⟩ = false := held_frozen hs
  have g5 : w.frozen? ⟨s, 5, none⟩ = false := held_frozen hs
  have d3 : w.cell? ⟨a, 3, none⟩ = some (.pointer (some ⟨g, 0, none⟩)) := held_cell ha rfl
  have f3 : w.frozen? ⟨a, 3, none⟩ = false := held_frozen ha
  have d2 : w.cell? ⟨b, 2, none⟩ = some (.pointer (some ⟨g, 0, none⟩)) := held_cell hb rfl
  have f2 : w.frozen? ⟨b, 2, none⟩ = false := held_frozen hb
  clear hs he ha hb
  go_enter Try.func38, Try.ntmps38
  go_wp2
  go_region
  go_wp2
  go_region
  go_wp2
  go_end0
  exact ⟨rfl, rfl, rfl, rfl, Nat.le_refl _, fun _ _ _ => rfl⟩
set_option maxRecDepth 100000 in
theorem lremove_mn (s g a : Nat) (li us hi mi : Int) (f l m : Value) (ke ka : ByteArray) (ve va pa : Value) (w : World)
    (hs : w.heap[s]? = some (.cells (shR li us hi mi f l m) 57 (0, 0)))
    (he : w.heap[g]? = some (.cells #[.string ke, ve, (.pointer (some ⟨a, 0, none⟩)), (.pointer none)] 71 (0, 0)))
    (ha : w.heap[a]? = some (.cells #[.string ka, va, pa, (.pointer (some ⟨g, 0, none⟩))] 71 (0, 0))) (h1 : a ≠ g) :
    Calls Try.prog 38 #[.pointer (some ⟨s, 4, none⟩), .pointer (some ⟨g, 0, none⟩)] w fun e w' => e = .returned (.tuple #[]) ∧ Sm ((w.setCell ⟨a, 3, none⟩ (.pointer none)).setCell ⟨s, 5, none⟩ (.pointer (some ⟨a, 0, none⟩))) w' := by
  have c2 : w.cell? ⟨g, 2, none⟩ = some (.pointer (some ⟨a, 0, none⟩)) := held_cell he rfl
  have c3 : w.cell? ⟨g, 3, none⟩ = some (.pointer none) := held_cell he rfl
  have e4 : w.cell? ⟨s, 4, none⟩ = some f := held_cell hs rfl
  have e5 : w.cell? ⟨s, 5, none⟩ = some l := held_cell hs rfl
  have g4 : w.frozen? ⟨s, 4, none⟩ = false := held_frozen hs
  have g5 : w.frozen? ⟨s, 5, none⟩ = false := held_frozen hs
  have d3 : w.cell? ⟨a, 3, none⟩ = some (.pointer (some ⟨g, 0, none⟩)) := held_cell ha rfl
  have f3 : w.frozen? ⟨a, 3, none⟩ = false := held_frozen ha
  clear hs he ha 
  go_enter Try.func38, Try.ntmps38
  go_wp2
  go_region
  go_wp2
  go_end0
  exact ⟨rfl, rfl, rfl, rfl, Nat.le_refl _, fun _ _ _ => rfl⟩
set_option maxRecDepth 100000 in
theorem lremove_nm (s g b : Nat) (li us hi mi : Int) (f l m : Value) (ke kb : ByteArray) (ve vb nb : Value) (w : World)
    (hs : w.heap[s]? = some (.cells (shR li us hi mi f l m) 57 (0, 0)))
    (he : w.heap[g]? = some (.cells #[.string ke, ve, (.pointer none), (.pointer (some ⟨b, 0, none⟩))] 71 (0, 0)))
    (hb : w.heap[b]? = some (.cells #[.string kb, vb, (.pointer (some ⟨g, 0, none⟩)), nb] 71 (0, 0))) (h2 : b ≠ g) :
    Calls Try.prog 38 #[.pointer (some ⟨s, 4, none⟩), .pointer (some ⟨g, 0, none⟩)] w fun e w' => e = .returned (.tuple #[]) ∧ Sm ((w.setCell ⟨s, 4, none⟩ (.pointer (some ⟨b, 0, none⟩))).setCell ⟨b, 2, none⟩ (.pointer none)) w' := by
  have c2 : w.cell? ⟨g, 2, none⟩ = some (.pointer none) := held_cell he rfl
  have c3 : w.cell? ⟨g, 3, none⟩ = some (.pointer (some ⟨b, 0, none⟩)) := held_cell he rfl
  have e4 : w.cell? ⟨s, 4, none⟩ = some f := held_cell hs rfl
  have e5 : w.cell? ⟨s, 5, none⟩ = some l := held_cell hs rfl
  have g4 : w.frozen? ⟨s, 4, none⟩ = false := held_frozen hs
  have g5 : w.frozen? ⟨s, 5, none⟩ = false := held_frozen hs
  have d2 : w.cell? ⟨b, 2, none⟩ = some (.pointer (some ⟨g, 0, none⟩)) := held_cell hb rfl
  have f2 : w.frozen? ⟨b, 2, none⟩ = false := held_frozen hb
  clear hs he  hb
  go_enter Try.func38, Try.ntmps38
  go_wp2
  go_region
  go_wp2
  go_end0
  exact ⟨rfl, rfl, rfl, rfl, Nat.le_refl _, fun _ _ _ => rfl⟩
set_option maxRecDepth 100000 in
theorem lremove_nn (s g  : Nat) (li us hi mi : Int) (f l m : Value) (ke : ByteArray) (ve : Value) (w : World)
    (hs : w.heap[s]? = some (.cells (shR li us hi mi f l m) 57 (0, 0)))
    (he : w.heap[g]? = some (.cells #[.string ke, ve, (.pointer none), (.pointer none)] 71 (0, 0))) :
    Calls Try.prog 38 #[.pointer (some ⟨s, 4, none⟩), .pointer (some ⟨g, 0, none⟩)] w fun e w' => e = .returned (.tuple #[]) ∧ Sm ((w.setCell ⟨s, 4, none⟩ (.pointer none)).setCell ⟨s, 5, none⟩ (.pointer none)) w' := by
  have c2 : w.cell? ⟨g, 2, none⟩ = some (.pointer none) := held_cell he rfl
  have c3 : w.cell? ⟨g, 3, none⟩ = some (.pointer none) := held_cell he rfl
  have e4 : w.cell? ⟨s, 4, none⟩ = some f := held_cell hs rfl
  have e5 : w.cell? ⟨s, 5, none⟩ = some l := held_cell hs rfl
  have g4 : w.frozen? ⟨s, 4, none⟩ = false := held_frozen hs
  have g5 : w.frozen? ⟨s, 5, none⟩ = false := held_frozen hs
  clear hs he  
  go_enter Try.func38, Try.ntmps38
  go_wp2
  go_end0
  exact ⟨rfl, rfl, rfl, rfl, Nat.le_refl _, fun _ _ _ => rfl⟩
set_option maxRecDepth 100000 in
theorem ladd_n (s g  : Nat) (li us hi mi : Int) (f m : Value) (ke : ByteArray) (ve x y : Value) (w : World)
    (hs : w.heap[s]? = some (.cells (shR li us hi mi f (.pointer none) m) 57 (0, 0)))
    (he : w.heap[g]? = some (.cells #[.string ke, ve, x, y] 71 (0, 0))) :
    Calls Try.prog 39 #[.pointer (some ⟨s, 4, none⟩), .pointer (some ⟨g, 0, none⟩)] w fun e w' => e = .returned (.tuple #[]) ∧ Sm ((((w.setCell ⟨g, 2, none⟩ (.pointer none)).setCell ⟨g, 3, none⟩ (.pointer none)).setCell ⟨s, 4, none⟩ (.pointer (some ⟨g, 0, none⟩))).setCell ⟨s, 5, none⟩ (.pointer (some ⟨g, 0, none⟩))) w' := by
  have c2 : w.cell? ⟨g, 2, none⟩ = some x := held_cell he rfl
  have c3 : w.cell? ⟨g, 3, none⟩ = some y := held_cell he rfl
  have q2 : w.frozen? ⟨g, 2, none⟩ = false := held_frozen he
  have q3 : w.frozen? ⟨g, 3, none⟩ = false := held_frozen he
  have e4 : w.cell? ⟨s, 4, none⟩ = some f := held_cell hs rfl
  have e5 : w.cell? ⟨s, 5, none⟩ = some (.pointer none) := held_cell hs rfl
  have g4 : w.frozen? ⟨s, 4, none⟩ = false := held_frozen hs
  have g5 : w.frozen? ⟨s, 5, none⟩ = false := held_frozen hs
  clear hs he 
  go_enter Try.func39, Try.ntmps39
  go_wp2
  go_end0
  exact ⟨rfl, rfl, rfl, rfl, Nat.le_refl _, fun _ _ _ => rfl⟩
set_option maxRecDepth 100000 in
theorem ladd_m (s g a : Nat) (li us hi mi : Int) (f m : Value) (ke ka : ByteArray) (ve x y va pa na : Value) (w : World)
    (hs : w.heap[s]? = some (.cells (shR li us hi mi f (.pointer (some ⟨a, 0, none⟩)) m) 57 (0, 0)))
    (he : w.heap[g]? = some (.cells #[.string ke, ve, x, y] 71 (0, 0)))
    (ha : w.heap[a]? = some (.cells #[.string ka, va, pa, na] 71 (0, 0))) (h1 : a ≠ g) (h3 : s ≠ a) :
    Calls Try.prog 39 #[.pointer (some ⟨s, 4, none⟩), .pointer (some ⟨g, 0, none⟩)] w fun e w' => e = .returned (.tuple #[]) ∧ Sm ((((w.setCell ⟨g, 2, none⟩ (.pointer (some ⟨a, 0, none⟩))).setCell ⟨g, 3, none⟩ (.pointer none)).setCell ⟨a, 3, none⟩ (.pointer (some ⟨g, 0, none⟩))).setCell ⟨s, 5, none⟩ (.pointer (some ⟨g, 0, none⟩))) w' := by
  have c2 : w.cell? ⟨g, 2, none⟩ = some x := held_cell he rfl
  have c3 : w.cell? ⟨g, 3, none⟩ = some y := held_cell he rfl
  have q2 : w.frozen? ⟨g, 2, none⟩ = false := held_frozen he
  have q3 : w.frozen? ⟨g, 3, none⟩ = false := held_frozen he
  have e4 : w.cell? ⟨s, 4, none⟩ = some f := held_cell hs rfl
  have e5 : w.cell? ⟨s, 5, none⟩ = some (.pointer (some ⟨a, 0, none⟩)) := held_cell hs rfl
  have g4 : w.frozen? ⟨s, 4, none⟩ = false := held_frozen hs
  have g5 : w.frozen? ⟨s, 5, none⟩ = false := held_frozen hs
  have d3 : w.cell? ⟨a, 3, none⟩ = some na := held_cell ha rfl
  have f3 : w.frozen? ⟨a, 3, none⟩ = false := held_frozen ha
  clear hs he ha
  go_enter Try.func39, Try.ntmps39
  go_wp2
  go_end0
  exact ⟨rfl, rfl, rfl, rfl, Nat.le_refl _, fun _ _ _ => rfl⟩
/-- The list's head, as the shelf holds it. -/
def ShAt (w : World) (s : Nat) (li us hi mi : Int) (l : List It) (m : Value) : Prop :=
  w.heap[s]? = some (.cells (shR li us hi mi (hdP l nl) (lsP nl l) m) 57 (0, 0))
theorem lremove_is (s : Nat) (li us hi mi : Int) (m : Value) (xs ys : List It) (e : It) (w : World) (hs : ShAt w s li us hi mi (xs ++ e :: ys) m) (hc : Chain w nl (xs ++ e :: ys) nl) (hn : (gs (xs ++ e :: ys)).Nodup) (hsn : s ∉ gs (xs ++ e :: ys)) :
    Calls Try.prog 38 #[.pointer (some ⟨s, 4, none⟩), e.p] w fun r w' => r = .returned (.tuple #[]) ∧ ShAt w' s li us hi mi (xs ++ ys) m ∧ Chain w' nl (xs ++ ys) nl ∧ (∃ a b, Nd w' e a b) ∧ Tch (fun k => k = s ∨ k ∈ gs (xs ++ ys)) w w' := by
  obtain ⟨H1, H2, H3⟩ := (chain_app nl xs (e :: ys)).1 hc
  rw [gs_app] at hn hsn
  have hn0 := List.nodup_append.1 hn
  have hneg : ∀ x ∈ gs xs, x ≠ e.g := fun x hx => hn0.2.2 x hx e.g (by simp [gs])
  have hney : ∀ y ∈ gs ys, y ≠ e.g := fun y hy h => (List.nodup_cons.1 (show (e.g :: gs ys).Nodup from hn0.2.1)).1 (h ▸ hy)
  have hxy : ∀ x ∈ gs xs, ∀ y ∈ gs ys, x ≠ y := fun x hx y hy => hn0.2.2 x hx y (by simp only [gs, List.map_cons, List.mem_cons]; exact .inr hy)
  have hse : s ≠ e.g := fun h => hsn (by rw [h]; simp [gs])
  have hsx : s ∉ gs xs := fun h => hsn (List.mem_append.2 (.inl h))
  have hsy : s ∉ gs ys := fun h => hsn (List.mem_append.2 (.inr (by simp only [gs, List.map_cons, List.mem_cons]; exact .inr h)))
  unfold ShAt at hs
  rcases xs.eq_nil_or_concat with rfl | ⟨xs, a, rfl⟩
  · rcases ys with _ | ⟨b, ys⟩
    · refine (lremove_nn s e.g li us hi mi _ _ m e.key e.sv w hs H2).mono ?_
      rintro r w' ⟨rfl, k⟩
      refine ⟨rfl, k.row (row_set (row_set hs _) _), trivial, ⟨_, _, k.row (row_far (row_far H2 _ hse.symm) _ hse.symm)⟩, k.out ?_⟩
      exact (Tch.set _ w _ _ (.inl rfl)).trans (Tch.set _ _ _ _ (.inl rfl))
    · have hb : b.g ≠ e.g := hney _ (mem_gs (List.mem_cons_self ..))
      have hsb : s ≠ b.g := fun h => hsy (by rw [h]; exact mem_gs (List.mem_cons_self ..))
      have hbn : b.g ∉ gs ys := (List.nodup_cons.1 (List.nodup_cons.1 hn0.2.1).2).1
      refine (lremove_nm s e.g b.g li us hi mi _ _ m e.key b.key e.sv b.sv _ w hs H2 H3.1 hb).mono ?_
      rintro r w' ⟨rfl, k⟩
      refine ⟨rfl, k.row (row_far (row_set hs _) _ hsb), k.chain ?_, ⟨_, _, k.row (row_far (row_far H2 _ hse.symm) _ hb.symm)⟩, k.out ?_⟩
      · exact Chain.setFirst (H3.touch (Tch.set (· = s) w ⟨s, 4, none⟩ _ rfl) fun e he hh => hsy (by rw [← hh]; exact mem_gs he)) hbn _
      · exact (Tch.set _ w _ _ (.inl rfl)).trans (Tch.set _ _ _ _ (.inr (mem_gs (List.mem_cons_self ..))))
  · rw [List.concat_eq_append] at *
    rw [lsP_snoc] at H2
    have ham : a.g ∈ gs (xs ++ [a]) := mem_gs (by simp)
    have hag : a.g ≠ e.g := hneg _ ham
    have hsa : s ≠ a.g := fun h => hsx (by rw [h]; exact ham)
    have han : a.g ∉ gs xs := by
      have := hn0.1
      rw [gs_app] at this
      exact fun h => (List.nodup_append.1 this).2.2 a.g h a.g (by simp [gs]) rfl
    have Ha := ((chain_app nl xs [a]).1 H1).2.1
    rcases ys with _ | ⟨b, ys⟩
    · refine (lremove_mn s e.g a.g li us hi mi _ _ m e.key a.key e.sv a.sv _ w hs H2 Ha hag).mono ?_
      rintro r w' ⟨rfl, k⟩
      refine ⟨rfl, ?_, k.chain ?_, ⟨_, _, k.row (row_far (row_far H2 _ hag.symm) _ hse.symm)⟩, k.out ?_⟩
      · have h := k.row (row_set (i := 5) (row_far (i := 3) hs nl hsa) a.p)
        unfold ShAt
        rw [List.append_nil, lsP_snoc]
        rw [hdP_app] at h ⊢
        cases xs <;> exact h
      · rw [List.append_nil]
        exact Chain.touch (Tch.set (· = s) _ ⟨s, 5, none⟩ _ rfl) (H1.setLast han _) fun e he hh => hsx (by rw [← hh]; exact mem_gs he)
      · exact (Tch.set _ w _ _ (.inr (by rw [List.append_nil]; exact ham))).trans (Tch.set _ _ _ _ (.inl rfl))
    · have hb : b.g ≠ e.g := hney _ (mem_gs (List.mem_cons_self ..))
      have hsb : s ≠ b.g := fun h => hsy (by rw [h]; exact mem_gs (List.mem_cons_self ..))
      have hbn : b.g ∉ gs ys := (List.nodup_cons.1 (List.nodup_cons.1 hn0.2.1).2).1
      refine (lremove_mm s e.g a.g b.g li us hi mi _ _ m e.key a.key b.key e.sv a.sv _ b.sv _ w hs H2 Ha hag H3.1 hb).mono ?_
      rintro r w' ⟨rfl, k⟩
      refine ⟨rfl, ?_, k.chain ?_, ⟨_, _, k.row (row_far (row_far H2 _ hag.symm) _ hb.symm)⟩, k.out ?_⟩
      · have h := k.row (row_far (i := 2) (row_far (i := 3) hs b.p hsa) a.p hsb)
        unfold ShAt
        rw [lsP_app, lsP_snoc] at h ⊢
        rw [hdP_app, hdP_app] at h ⊢
        cases xs <;> exact h
      · refine (chain_app nl (xs ++ [a]) (b :: ys)).2 ⟨?_, ?_⟩
        · exact Chain.touch (Tch.set (· = b.g) _ ⟨b.g, 2, none⟩ _ rfl) (H1.setLast han _) fun e he hh => hxy _ (mem_gs he) _ (mem_gs (List.mem_cons_self ..)) hh
        · rw [lsP_snoc]
          exact Chain.setFirst (H3.touch (Tch.set (· = a.g) w ⟨a.g, 3, none⟩ _ rfl) fun e he hh => hxy _ ham _ (mem_gs he) hh.symm) hbn _
      · exact (Tch.set _ w _ _ (.inr (by rw [gs_app]; exact List.mem_append.2 (.inl ham)))).trans (Tch.set _ _ _ _ (.inr (by rw [gs_app]; exact List.mem_append.2 (.inr (mem_gs (List.mem_cons_self ..))))))
theorem ladd_is (s : Nat) (li us hi mi : Int) (m : Value) (xs : List It) (e : It) (x y : Value) (w : World) (hs : ShAt w s li us hi mi xs m) (hc : Chain w nl xs nl) (hn : (gs xs).Nodup) (hsn : s ∉ gs xs) (he : Nd w e x y) (heg : e.g ∉ gs xs) (hse : s ≠ e.g) :
    Calls Try.prog 39 #[.pointer (some ⟨s, 4, none⟩), e.p] w fun r w' => r = .returned (.tuple #[]) ∧ ShAt w' s li us hi mi (xs ++ [e]) m ∧ Chain w' nl (xs ++ [e]) nl ∧ Tch (fun k => k = s ∨ k ∈ gs (xs ++ [e])) w w' := by
  have heM : e.g ∈ gs (xs ++ [e]) := mem_gs (by simp)
  rcases xs.eq_nil_or_concat with rfl | ⟨xs, a, rfl⟩
  · refine (ladd_n s e.g li us hi mi _ m e.key e.sv x y w hs he).mono ?_
    rintro r w' ⟨rfl, k⟩
    refine ⟨rfl, k.row (row_set (row_set (row_far (row_far hs _ hse) _ hse) _) _), ⟨k.row (row_far (row_far (row_set (row_set he _) _) _ hse.symm) _ hse.symm), trivial⟩, k.out ?_⟩
    exact (((Tch.set _ w _ _ (.inr heM)).trans (Tch.set _ _ _ _ (.inr heM))).trans (Tch.set _ _ _ _ (.inl rfl))).trans (Tch.set _ _ _ _ (.inl rfl))
  · rw [List.concat_eq_append] at *
    have ham : a.g ∈ gs (xs ++ [a]) := mem_gs (by simp)
    have hag : a.g ≠ e.g := fun h => heg (by rw [← h]; exact ham)
    have hsa : s ≠ a.g := fun h => hsn (by rw [h]; exact ham)
    have han : a.g ∉ gs xs := by
      rw [gs_app] at hn
      exact fun h => (List.nodup_append.1 hn).2.2 a.g h a.g (by simp [gs]) rfl
    have Ha := ((chain_app nl xs [a]).1 hc).2.1
    unfold ShAt at hs
    rw [lsP_snoc] at hs
    refine (ladd_m s e.g a.g li us hi mi _ m e.key a.key e.sv x y a.sv _ _ w hs he Ha hag hsa).mono ?_
    rintro r w' ⟨rfl, k⟩
    refine ⟨rfl, ?_, k.chain ?_, k.out ?_⟩
    · have h := k.row (row_set (i := 5) (row_far (i := 3) (row_far (i := 3) (row_far (i := 2) hs a.p hse) nl hse) e.p hsa) e.p)
      unfold ShAt
      rw [lsP_snoc]
      rw [hdP_app, hdP_app] at *
      cases xs <;> exact h
    · have t1 : Tch (· = e.g) w ((w.setCell ⟨e.g, 2, none⟩ a.p).setCell ⟨e.g, 3, none⟩ nl) := (Tch.set (· = e.g) w _ _ rfl).trans (Tch.set (· = e.g) _ _ _ rfl)
      have C1 := Chain.setLast (hc.touch t1 fun z hz hh => heg (by rw [← hh]; exact mem_gs hz)) han e.p
      have C2 := Chain.touch (Tch.set (· = s) _ ⟨s, 5, none⟩ e.p rfl) C1 fun z hz hh => hsn (by rw [← hh]; exact mem_gs hz)
      refine (chain_app nl (xs ++ [a]) [e]).2 ⟨C2, ?_, trivial⟩
      rw [lsP_snoc]
      exact row_far (row_far (row_set (row_set he _) _) _ hag.symm) _ hse.symm
    · have ham2 : a.g ∈ gs (xs ++ [a] ++ [e]) := mem_gs (by simp)
      exact (((Tch.set _ w _ _ (.inr heM)).trans (Tch.set _ _ _ _ (.inr heM))).trans (Tch.set _ _ _ _ (.inr ham2))).trans (Tch.set _ _ _ _ (.inl rfl))
end Go.Proofs.Ytflhgoecmcfkkaa
