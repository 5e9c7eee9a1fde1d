/-
  SimobjAtOnce: what is wanted of each name, beside the store; the law's map and the calls about both. Conditions: those that each theorem names.
-/
import Derived.Test.YtcohpgahffbnlaaOop
import Derived.Maps.StringElems
namespace Go.Icz
open Go.RowKit
/-- What is wanted is what the store holds. -/
def EqW (M : SM) (N : AL ByteArray) : Prop := ∀ k, alook N k = (alook M.L k).map strB
theorem EqW.new (n : Nat) : EqW (newS n) [] := fun _ => rfl
theorem EqW.same {M M' : SM} {N : AL ByteArray} (h : EqW M N) (hL : M'.L = M.L) : EqW M' N := fun k => by rw [hL]; exact h k
theorem EqW.put {M M' : SM} {N : AL ByteArray} {k : ByteArray} {l : List Nat} (h : EqW M N) (ho : ∀ j, j ≠ k → alook M'.L j = alook M.L j) (hk : alook M'.L k = some l) : EqW M' (aput N k (strB l)) := fun j => by
  by_cases e : j = k
  · subst e; rw [al_put_same, hk]; rfl
  · rw [al_put_other e, ho j e]; exact h j
theorem EqW.del {M M' : SM} {N : AL ByteArray} {k : ByteArray} (h : EqW M N) (ho : ∀ j, j ≠ k → alook M'.L j = alook M.L j) (hk : alook M'.L k = none) : EqW M' (adel k N) := fun j => by
  by_cases e : j = k
  · subst e; rw [al_del_same, hk]; rfl
  · rw [al_del_other e, ho j e]; exact h j
theorem EqW.len {M : SM} {N : AL ByteArray} (h : EqW M N) (h1 : (akeys M.L).Nodup) (h2 : (akeys N).Nodup) : N.length = M.L.length := by
  have hp : (akeys N).Perm (akeys M.L) := (List.perm_ext_iff_of_nodup h2 h1).2 fun k => by rw [← al_isSome, ← al_isSome, h k]; simp
  have := hp.length_eq
  simpa [akeys] using this
theorem EqW.some {M : SM} {N : AL ByteArray} (h : EqW M N) (k : ByteArray) : (alook N k).isSome = (alook M.L k).isSome := by rw [h k]; simp
theorem rises_length {β : Type} (N : AL β) : (rises N).length = N.length := by simp [rises]
theorem L_ask (M : SM) : (askS M).L = M.L := rfl
theorem L_note (M : SM) (k : ByteArray) (c : Bool) : (noteS M k c).L = M.L := by unfold noteS; split <;> rfl
theorem err_two (M : SM) : (errS M = 0 ∧ okS M = true) ∨ errS M = 8 := by
  unfold errS okS nextF
  split
  · exact .inl ⟨rfl, rfl⟩
  · split
    · exact .inl ⟨rfl, rfl⟩
    · exact .inr rfl
/-- What a Put does to what is held. -/
inductive PutW (M : SM) (k : ByteArray) (l : List Nat) : Int → SM → Prop
  | did {f : Int} {M' : SM} : f = 0 ∨ f = 8 → alook M'.L k = some l → (∀ j, j ≠ k → alook M'.L j = alook M.L j) → PutW M k l f M'
  | not {f : Int} {M' : SM} : f ≠ 0 → M'.L = M.L → PutW M k l f M'
theorem putW (M : SM) (k : ByteArray) (l : List Nat) : PutW M k l (putM M k l).1 (putM M k l).2 := by
  unfold putM
  by_cases h1 : nameB k = false
  · rw [if_pos h1]; exact .not (f := 1) (by decide) rfl
  rw [if_neg h1]
  by_cases h2 : 1048576 < l.length
  · rw [if_pos h2]; exact .not (f := 6) (by decide) rfl
  rw [if_neg h2]
  by_cases h3 : fullS M k = true
  · rw [if_pos h3]; exact .not (f := 7) (by decide) rfl
  rw [if_neg h3]
  by_cases ho : okS M = true
  · rw [if_pos ho]
    have e : (actPut (askS M) k l).L = aput M.L k l := rfl
    refine .did (by rcases err_two M with h | h; exact .inl h.1; exact .inr h) (by rw [e, al_put_same]) (fun j hj => by rw [e, al_put_other hj])
  · rw [if_neg ho]
    rcases err_two M with h | h
    · exact absurd h.2 ho
    · rw [h]; exact .not (f := 8) (by decide) rfl
inductive DelW (M : SM) (k : ByteArray) : Int → SM → Prop
  | did {f : Int} {M' : SM} : alook M'.L k = none → (∀ j, j ≠ k → alook M'.L j = alook M.L j) → DelW M k f M'
  | not {f : Int} {M' : SM} : f ≠ 0 → M'.L = M.L → DelW M k f M'
theorem delW (M : SM) (k : ByteArray) : DelW M k (delM M k).1 (delM M k).2 := by
  unfold delM
  by_cases h1 : nameB k = false
  · rw [if_pos h1]; exact .not (f := 1) (by decide) rfl
  rw [if_neg h1]
  by_cases ho : okS M = true
  · rw [if_pos ho]
    have e : (actDel (askS M) k).L = adel k M.L := rfl
    exact .did (by rw [e, al_del_same]) (fun j hj => by rw [e, al_del_other hj])
  · rw [if_neg ho]
    rcases err_two M with h | h
    · exact absurd h.2 ho
    · rw [h]; exact .not (f := 8) (by decide) rfl
theorem putW_L (M : SM) (k : ByteArray) : (getM M k).2.2.L = M.L := by
  unfold getM
  split
  · rfl
  · split
    · rfl
    · split <;> rfl
theorem getW (M : SM) (k : ByteArray) : (∃ l, (getM M k).2.1 = 0 ∧ (getM M k).1 = l ∧ alook M.L k = some l) ∨ ((getM M k).2.1 = 3 ∧ alook M.L k = none) ∨ ((getM M k).2.1 ≠ 0 ∧ (getM M k).2.1 ≠ 3) := by
  unfold getM
  split
  · exact .inr (.inr ⟨show (1 : Int) ≠ 0 by decide, show (1 : Int) ≠ 3 by decide⟩)
  · split
    · rename_i h
      rcases err_two M with h2 | h2
      · exact absurd h2.1 h
      · refine .inr (.inr ⟨?_, ?_⟩)
        · simp only [h2]; decide
        · simp only [h2]; decide
    · split
      · rename_i h; exact .inr (.inl ⟨rfl, h⟩)
      · rename_i h; exact .inl ⟨_, rfl, rfl, h⟩
theorem listM_L (M : SM) (k : ByteArray) : (listM M k).2.2.L = M.L := by
  unfold listM
  split
  · rfl
  · split <;> rfl
theorem tickM_L (M : SM) (n : Int) : (tickM M n).2.L = M.L := by unfold tickM; split <;> rfl
theorem lagM_L (M : SM) (n : Int) : (lagM M n).2.L = M.L := by unfold lagM; split <;> rfl
end Go.Icz
namespace Go.Proofs.Ytcohpgahffbnlaa
open Go.RowKit Go.Icz Go.Maps Go.ChangeMaps Go.MapKept
set_option maxRecDepth 100000
/-- A map from names to texts. -/
def Wm (w : World) (b : Nat) (N : AL ByteArray) : Prop :=
  ∃ D : DataW Unit, w.ownsMap Try.prog 9 (plainElem Try.prog 9) b N.length D ∧ AgrK D N ∧ ∀ k x, alook N k = some x → D.atKey (kl k) (.lit (.string [])) = .lit (.string x.data.toList)
theorem Wm.made (w : World) : Wm (w.alloc (.map #[] 0)) w.heap.size [] := ⟨.map [], World.ownsMap_made .., AgrK.nil, fun _ _ h => (by cases h)⟩
theorem Wm.touch {S : Nat → Prop} {w w' : World} {b : Nat} {N : AL ByteArray} (h : Wm w b N) (t : Tch S w w') (hb : ¬ S b) : Wm w' b N := by
  obtain ⟨D, h1, h2, h3⟩ := h
  exact ⟨D, ownsMap_touch h1 t hb, h2, h3⟩
theorem Wm.lt {w : World} {b : Nat} {N : AL ByteArray} (h : Wm w b N) : b < w.heap.size := by
  obtain ⟨D, h1, _⟩ := h
  exact h1.lt
/-- What the store may touch: nothing of the law's map, nothing of the operation's copy. -/
def Th (W : World) (wb ob : Nat) : Nat → Prop := fun k => W.heap.size ≤ k ∧ k ≠ wb ∧ k ≠ ob
/-- The store, the law's map, the copy of the operation. -/
structure Ih (W wr : World) (q p wb ob c : Nat) (o : OpD) (M : SM) (N : AL ByteArray) : Prop where
  st : Sto wr (Th W wb ob) c q p M
  wm : Wm wr wb N
  bel : Below W.heap.size W wr
  nn : (akeys N).Nodup
  wl : W.heap.size ≤ wb
  ro : wr.heap[ob]? = some (.cells o.cells 34 (0, 0))
/-- .. without a copy. -/
structure Ij (W wr : World) (q p wb c : Nat) (M : SM) (N : AL ByteArray) : Prop where
  st : Sto wr (fun k => W.heap.size ≤ k ∧ k ≠ wb) c q p M
  wm : Wm wr wb N
  bel : Below W.heap.size W wr
  nn : (akeys N).Nodup
  wl : W.heap.size ≤ wb
variable {W wr w w' : World} {q p wb ob c : Nat} {o : OpD} {M M' : SM} {N : AL ByteArray}
theorem Ih.back (h : Ih W wr q p wb ob c o M N) : Ij W wr q p wb c M N := ⟨h.st.re (fun _ hk _ => ⟨hk.1, hk.2.1⟩), h.wm, h.bel, h.nn, h.wl⟩
theorem Ij.fresh (h : Ij W wr q p wb c M N) (o : OpD) : Ih W (wr.alloc (.cells o.cells 34)) q p wb wr.heap.size c o M N := by
  have ba := (Below.refl wr.heap.size wr).alloc (Nat.le_refl _) (.cells o.cells 34)
  exact ⟨(h.st.re (T' := Th W wb wr.heap.size) (fun k hk hlt => ⟨hk.1, hk.2, by omega⟩)).below ba, h.wm.touch (Tch.of_below (S := fun _ => False) ba) (fun h => h), h.bel.trans (ba.mono h.bel.size), h.nn, h.wl, heap_alloc_new _ _⟩
theorem Ih.below (h : Ih W w q p wb ob c o M N) (b : Below w.heap.size w w') : Ih W w' q p wb ob c o M N :=
  ⟨h.st.below b, h.wm.touch (Tch.of_below (S := fun _ => False) b) (fun h => h), h.bel.trans (b.mono h.bel.size), h.nn, h.wl, (Tch.of_below (S := fun _ => False) b).row h.ro (fun h => h)⟩
theorem Ij.below (h : Ij W w q p wb c M N) (b : Below w.heap.size w w') : Ij W w' q p wb c M N :=
  ⟨h.st.below b, h.wm.touch (Tch.of_below (S := fun _ => False) b) (fun h => h), h.bel.trans (b.mono h.bel.size), h.nn, h.wl⟩
theorem Ih.dn {c' : Nat} (h : Ih W w q p wb ob c o M N) (d : Dn w (Th W wb ob) c' q p M' w') : Ih W w' q p wb ob c' o M' N :=
  ⟨d.1, h.wm.touch d.2 (fun x => x.2.1 rfl), h.bel.trans (d.2.to_below (fun _ hk => hk.1) h.bel.size), h.nn, h.wl, d.2.row h.ro (fun x => x.2.2 rfl)⟩
theorem Ih.hT (h : Ih W w q p wb ob c o M N) : ∀ k, w.heap.size ≤ k → Th W wb ob k := fun k hk => by
  have h1 := h.wm.lt
  have h2 := row_lt h.ro
  exact ⟨Nat.le_trans h.bel.size hk, by omega, by omega⟩
theorem Ih.le {d : Nat} (h : Ih W w q p wb ob c o M N) (hd : c ≤ d) (hh : d ≤ 4194304) : Ih W w q p wb ob d o M N := ⟨h.st.le hd hh, h.wm, h.bel, h.nn, h.wl, h.ro⟩
theorem Ih.map (h : Ih W w q p wb ob c o M N) {N' : AL ByteArray} (t : Tch (· = wb) w w') (hN : Wm w' wb N') (hn : (akeys N').Nodup) : Ih W w' q p wb ob c o M N' := by
  have hne : ob ≠ wb := by
    obtain ⟨D, ⟨es, clock, h1, _⟩, _⟩ := h.wm
    exact map_ne h.ro h1
  exact ⟨h.st.far t (fun j hj hT => hT.2.1 hj), hN, h.bel.trans (t.to_below (fun k hk => by rw [hk]; exact h.wl) h.bel.size), hn, h.wl, t.row h.ro hne⟩
theorem Ih.cells (h : Ih W w q p wb ob c o M N) : w.cell? ⟨ob, 1, none⟩ = some (.string o.nm) ∧ w.cell? ⟨ob, 2, none⟩ = some (.slice o.A o.bs.length o.C) := ⟨held_cell h.ro rfl, held_cell h.ro rfl⟩
/-- Put. -/
theorem Ih.put (h : Ih W w q p wb ob c o M N) (ok : OpOk W W.heap.size o) (hc : c + 2 ≤ 4194304) :
    Calls Try.prog 10 #[.pointer (some ⟨q, 0, none⟩), .string o.nm, .slice o.A o.bs.length o.C] w fun e w' => e = .returned (.int .i64 (putM M o.nm o.bs).1) ∧ w'.cell? ⟨ob, 1, none⟩ = some (.string o.nm) ∧ w'.cell? ⟨ob, 2, none⟩ = some (.slice o.A o.bs.length o.C) ∧ Hid (Ih W w' q p wb ob (c + 2) o (putM M o.nm o.bs).2 N) := by
  have hb := ok.bs
  refine (Put_is h.st hc h.hT o.nm ok.nm (ok.rd.below h.bel) (fun h0 g hg hT => ?_) (by omega)).mono ?_
  · have := ok.far h0 g hg
    have := hT.1
    omega
  rintro e w2 ⟨rfl, d⟩
  have := h.dn d
  exact ⟨rfl, this.cells.1, this.cells.2, hid this⟩
theorem Ih.del (h : Ih W w q p wb ob c o M N) (ok : OpOk W W.heap.size o) (hc : c + 2 ≤ 4194304) :
    Calls Try.prog 20 #[.pointer (some ⟨q, 0, none⟩), .string o.nm] w fun e w' => e = .returned (.int .i64 (delM M o.nm).1) ∧ w'.cell? ⟨ob, 1, none⟩ = some (.string o.nm) ∧ Hid (Ih W w' q p wb ob (c + 2) o (delM M o.nm).2 N) := by
  refine (Delete_is h.st hc h.hT o.nm ok.nm).mono ?_
  rintro e w2 ⟨rfl, d⟩
  have hI := h.dn d
  exact ⟨rfl, hI.cells.1, hid hI⟩
theorem Ih.list (h : Ih W w q p wb ob c o M N) (ok : OpOk W W.heap.size o) (hc : c + 1 ≤ 4194304) :
    Calls Try.prog 12 #[.pointer (some ⟨q, 0, none⟩), .string o.nm] w fun e w' => ∃ A n C y, e = .returned (.tuple #[.slice A n C, .int .i64 y]) ∧ Hid (Ih W w' q p wb ob (c + 1) o (listM M o.nm).2.2 N) := by
  refine (List_is h.st hc h.hT o.nm ok.nm).mono ?_
  rintro e w2 ⟨A, n, C, rfl, _, d⟩
  exact ⟨A, n, C, _, rfl, hid (h.dn d)⟩
theorem Ih.tick (h : Ih W w q p wb ob c o M N) (n : Int) : Calls Try.prog 9 #[.pointer (some ⟨q, 0, none⟩), .int .i64 n] w fun e w' => ∃ y, e = .returned (.int .i64 y) ∧ Hid (Ih W w' q p wb ob c o (tickM M n).2 N) := by
  refine (Tick_is h.st h.hT n).mono ?_
  rintro e w2 ⟨rfl, d⟩
  exact ⟨_, rfl, hid (h.dn d)⟩
theorem Ih.lag (h : Ih W w q p wb ob c o M N) (n : Int) : Calls Try.prog 11 #[.pointer (some ⟨q, 0, none⟩), .int .i64 n] w fun e w' => ∃ y, e = .returned (.int .i64 y) ∧ Hid (Ih W w' q p wb ob c o (lagM M n).2 N) := by
  refine (Lag_is h.st n).mono ?_
  rintro e w2 ⟨rfl, d⟩
  exact ⟨_, rfl, hid (h.dn d)⟩
theorem Ih.fail (h : Ih W w q p wb ob c o M N) (n : Int) (y : Bool) (hn : n ≤ 9223372036854775807) : Calls Try.prog 26 #[.pointer (some ⟨q, 0, none⟩), .int .i64 n, .bool y] w fun e w' => e = .returned (.tuple #[]) ∧ Hid (Ih W w' q p wb ob c o (failS M n y) N) := by
  refine (Fail_is h.st n y hn).mono ?_
  rintro e w2 ⟨rfl, d⟩
  exact ⟨rfl, hid (h.dn d)⟩
end Go.Proofs.Ytcohpgahffbnlaa
