/-
  SimobjLists: the law's maps of numbers and of signs, and the calls beside them. Conditions: those that each theorem names.
-/
import Derived.Test.YtpdjdmgfhfaecaaOtx
namespace Go.Proofs.Ytpdjdmgfhfaecaa
open Go.RowKit Go.Icz Go.Maps Go.ChangeMaps Go.MapKept
set_option maxRecDepth 100000
/-- A map from names to numbers. -/
def MI (w : World) (b n : Nat) (f : ByteArray → Nat) : Prop := ∃ D : DataW Unit, w.ownsMap Try.prog 9 (plainElem Try.prog 3) b n D ∧ ∀ k, D.atKey (kl k) (.lit (.int .i64 0)) = .lit (.int .i64 (f k))
/-- A map from names to signs. -/
def MB (w : World) (b n : Nat) (f : ByteArray → Bool) : Prop := ∃ D : DataW Unit, w.ownsMap Try.prog 9 (plainElem Try.prog 4) b n D ∧ ∀ k, D.atKey (kl k) (.lit (.bool false)) = .lit (.bool (f k))
theorem MI.made (w : World) : MI (w.alloc (.map #[] 0)) w.heap.size 0 (fun _ => 0) := ⟨.map [], World.ownsMap_made .., fun _ => rfl⟩
theorem MB.made (w : World) : MB (w.alloc (.map #[] 0)) w.heap.size 0 (fun _ => false) := ⟨.map [], World.ownsMap_made .., fun _ => rfl⟩
theorem MI.touch {S : Nat → Prop} {w w' : World} {b n : Nat} {f : ByteArray → Nat} (h : MI w b n f) (k : Tch S w w') (hS : ¬ S b) : MI w' b n f := by
  obtain ⟨D, h1, h2⟩ := h
  exact ⟨D, ownsMap_touch h1 k hS, h2⟩
theorem MB.touch {S : Nat → Prop} {w w' : World} {b n : Nat} {f : ByteArray → Bool} (h : MB w b n f) (k : Tch S w w') (hS : ¬ S b) : MB w' b n f := by
  obtain ⟨D, h1, h2⟩ := h
  exact ⟨D, ownsMap_touch h1 k hS, h2⟩
theorem MI.up {w : World} {b n n' : Nat} {f : ByteArray → Nat} (h : MI w b n f) (hn : n ≤ n') : MI w b n' f := by
  obtain ⟨D, ⟨es, c, h1, h3, h4, h5⟩, h2⟩ := h
  exact ⟨D, ⟨es, c, h1, h3, Nat.le_trans h4 hn, h5⟩, h2⟩
theorem MI.lt {w : World} {b n : Nat} {f : ByteArray → Nat} (h : MI w b n f) : b < w.heap.size := by
  obtain ⟨D, h1, _⟩ := h
  exact h1.lt
theorem MB.lt {w : World} {b n : Nat} {f : ByteArray → Bool} (h : MB w b n f) : b < w.heap.size := by
  obtain ⟨D, h1, _⟩ := h
  exact h1.lt
theorem MI.look {w : World} {b n : Nat} {f : ByteArray → Nat} (h : MI w b n f) (k : ByteArray) (hk : k.size ≤ maxLen) : (Instr.lookup 56 (.map (some b)) (.string k) false).run Try.prog w = .ok (.int .i64 (f k)) w := by
  obtain ⟨D, ho, ha⟩ := h
  obtain ⟨v, ps, hrun, hv⟩ := ho.lookup (string_keyed Try.underlying9) Try.underlying56 (Try.zeroValue3 w) (zd := .lit (.int .i64 0)) (zp := []) (plainElem_int Try.underlying3 (by decide)) (keyS hk)
  rw [ha k] at hv
  obtain ⟨a, rfl, hz, _⟩ := plainElem_int_inv Try.underlying3 hv
  injection hz with hz _
  injection hz with hz
  injection hz with _ hz
  rw [hrun, hz]
theorem plainElem_bool_inv {H : Type} {P : Program} {e : TypeId} (he : P.underlying e = some .bool) {v : Value} {z : DataW H × List MemPlace} (h : plainElem P e v = some z) : ∃ s : Bool, v = .bool s ∧ z = (.lit (.bool s), []) := by
  unfold plainElem at h
  rw [he] at h
  cases v <;> simp at h
  exact ⟨_, rfl, h.symm⟩
theorem MB.look {w : World} {b n : Nat} {f : ByteArray → Bool} (h : MB w b n f) (k : ByteArray) (hk : k.size ≤ maxLen) : (Instr.lookup 57 (.map (some b)) (.string k) false).run Try.prog w = .ok (.bool (f k)) w := by
  obtain ⟨D, ho, ha⟩ := h
  obtain ⟨v, ps, hrun, hv⟩ := ho.lookup (string_keyed Try.underlying9) Try.underlying57 (Try.zeroValue4 w) (zd := .lit (.bool false)) (zp := []) (plainElem_bool Try.underlying4 false) (keyS hk)
  rw [ha k] at hv
  obtain ⟨a, rfl, hz⟩ := plainElem_bool_inv Try.underlying4 hv
  injection hz with hz _
  injection hz with hz
  injection hz with hz
  rw [hrun, hz]
theorem MI.store {w : World} {b n : Nat} {f : ByteArray → Nat} (h : MI w b n f) (k : ByteArray) (hk : k.size ≤ maxLen) (x : Nat) (hx : x ≤ 1048576) (hn : n < maxLen) : ∃ w', (Instr.mapUpdate 56 (.map (some b)) (.string k) (.int .i64 x)).run Try.prog w = .ok () w' ∧ MI w' b (n + 1) (upd f k x) ∧ Tch (· = b) w w' := by
  obtain ⟨D, ho, ha⟩ := h
  have hwf : (Lit.int .i64 (x : Int)).wf = true := by
    have e1 : IntKind.i64.min = -9223372036854775808 := by decide
    have e2 : IntKind.i64.max = 9223372036854775807 := by decide
    simp only [Lit.wf, e1, e2]
    simp
    omega
  obtain ⟨w', hrun, ho', ht⟩ := ho.store (string_keyed Try.underlying9) Try.underlying56 hn (keyS hk) (val := .int .i64 x) (d := .lit (.int .i64 x)) (ps := []) (plainElem_int Try.underlying3 hwf)
  refine ⟨w', hrun, ⟨_, ho', fun j => ?_⟩, Tch.turned ht⟩
  by_cases hj : j = k
  · rw [hj, upd_same, Maps.atKey_put_same ho.isMap (kl_key _)]
  · rw [upd_other _ _ hj, Maps.atKey_put_other (kl_ne hj), ha]
theorem MB.store {w : World} {b n : Nat} {f : ByteArray → Bool} (h : MB w b n f) (k : ByteArray) (hk : k.size ≤ maxLen) (x : Bool) (hn : n < maxLen) : ∃ w', (Instr.mapUpdate 57 (.map (some b)) (.string k) (.bool x)).run Try.prog w = .ok () w' ∧ MB w' b (n + 1) (upd f k x) ∧ Tch (· = b) w w' := by
  obtain ⟨D, ho, ha⟩ := h
  obtain ⟨w', hrun, ho', ht⟩ := ho.store (string_keyed Try.underlying9) Try.underlying57 hn (keyS hk) (val := .bool x) (d := .lit (.bool x)) (ps := []) (plainElem_bool Try.underlying4 x)
  refine ⟨w', hrun, ⟨_, ho', fun j => ?_⟩, Tch.turned ht⟩
  by_cases hj : j = k
  · rw [hj, upd_same, Maps.atKey_put_same ho.isMap (kl_key _)]
  · rw [upd_other _ _ hj, Maps.atKey_put_other (kl_ne hj), ha]
/-- The store and the law's two maps of numbers; nothing of X is the store's. -/
structure Il (W w : World) (q p b1 b2 : Nat) (X : Nat → Prop) (c n : Nat) (M : SM) (fc fw : ByteArray → Nat) : Prop where
  st : Sto w (fun k => W.heap.size ≤ k ∧ k ≠ b1 ∧ k ≠ b2 ∧ ¬ X k) c q p M
  mc : MI w b1 n fc
  mw : MI w b2 n fw
  ne : b1 ≠ b2
  bel : Below W.heap.size W w
  lo : W.heap.size ≤ b1 ∧ W.heap.size ≤ b2
variable {W w w' : World} {q p b1 b2 ob c n : Nat} {X Y : Nat → Prop} {o : OpD} {M M' : SM} {fc fw : ByteArray → Nat}
theorem Il.re (h : Il W w q p b1 b2 X c n M fc fw) (hX : ∀ k, Y k → k < w.heap.size → X k) : Il W w q p b1 b2 Y c n M fc fw :=
  ⟨h.st.re (fun k hk hl => ⟨hk.1, hk.2.1, hk.2.2.1, fun hy => hk.2.2.2 (hX k hy hl)⟩), h.mc, h.mw, h.ne, h.bel, h.lo⟩
theorem Il.below (h : Il W w q p b1 b2 X c n M fc fw) (b : Below w.heap.size w w') : Il W w' q p b1 b2 X c n M fc fw :=
  ⟨h.st.below b, h.mc.touch (Tch.of_below (S := fun _ => False) b) (fun h => h), h.mw.touch (Tch.of_below (S := fun _ => False) b) (fun h => h), h.ne, h.bel.trans (b.mono h.bel.size), h.lo⟩
theorem Il.dn {c' : Nat} (h : Il W w q p b1 b2 X c n M fc fw) (d : Dn w (fun k => W.heap.size ≤ k ∧ k ≠ b1 ∧ k ≠ b2 ∧ ¬ X k) c' q p M' w') : Il W w' q p b1 b2 X c' n M' fc fw :=
  ⟨d.1, h.mc.touch d.2 (fun x => x.2.1 rfl), h.mw.touch d.2 (fun x => x.2.2.1 rfl), h.ne, h.bel.trans (d.2.to_below (fun _ hk => hk.1) h.bel.size), h.lo⟩
theorem Il.le {d : Nat} (h : Il W w q p b1 b2 X c n M fc fw) (hd : c ≤ d) (hh : d ≤ 4194304) : Il W w q p b1 b2 X d n M fc fw := ⟨h.st.le hd hh, h.mc, h.mw, h.ne, h.bel, h.lo⟩
theorem Il.up {m : Nat} (h : Il W w q p b1 b2 X c n M fc fw) (hd : n ≤ m) : Il W w q p b1 b2 X c m M fc fw := ⟨h.st, h.mc.up hd, h.mw.up hd, h.ne, h.bel, h.lo⟩
theorem Il.hT (h : Il W w q p b1 b2 X c n M fc fw) (hX : ∀ k, X k → k < w.heap.size) : ∀ k, w.heap.size ≤ k → W.heap.size ≤ k ∧ k ≠ b1 ∧ k ≠ b2 ∧ ¬ X k := fun k hk => by
  have h1 := h.mc.lt
  have h2 := h.mw.lt
  exact ⟨Nat.le_trans h.bel.size hk, by omega, by omega, fun hx => by have := hX k hx; omega⟩
theorem Il.far (h : Il W w q p b1 b2 X c n M fc fw) {ib : Nat} (t : Tch (· = ib) w w') (hX : X ib) (h1 : ib ≠ b1) (h2 : ib ≠ b2) (hW : W.heap.size ≤ ib) : Il W w' q p b1 b2 X c n M fc fw :=
  ⟨h.st.far t (fun j hj hT => hT.2.2.2 (by rw [hj]; exact hX)), h.mc.touch t (fun e => h1 e.symm), h.mw.touch t (fun e => h2 e.symm), h.ne, h.bel.trans (t.to_below (fun k hk => by rw [hk]; exact hW) h.bel.size), h.lo⟩
theorem Il.came (h : Il W w q p b1 b2 X c n M fc fw) (k : ByteArray) (hk : k.size ≤ maxLen) (x : Nat) (hx : x ≤ 1048576) (hn : n ≤ 1048576) : ∃ w', (Instr.mapUpdate 56 (.map (some b1)) (.string k) (.int .i64 x)).run Try.prog w = .ok () w' ∧ Il W w' q p b1 b2 X c (n + 1) M (upd fc k x) fw ∧ Tch (· = b1) w w' := by
  obtain ⟨w', hr, hm, t⟩ := h.mc.store k hk x hx (by have h2 : 1048577 ≤ maxLen := (by decide); omega)
  exact ⟨w', hr, ⟨h.st.far t (fun j hj hT => hT.2.1 hj), hm, (h.mw.touch t (fun e => h.ne e.symm)).up (Nat.le_succ _), h.ne, h.bel.trans (t.to_below (fun k hk => by rw [hk]; exact h.lo.1) h.bel.size), h.lo⟩, t⟩
theorem Il.went (h : Il W w q p b1 b2 X c n M fc fw) (k : ByteArray) (hk : k.size ≤ maxLen) (x : Nat) (hx : x ≤ 1048576) (hn : n ≤ 1048576) : ∃ w', (Instr.mapUpdate 56 (.map (some b2)) (.string k) (.int .i64 x)).run Try.prog w = .ok () w' ∧ Il W w' q p b1 b2 X c (n + 1) M fc (upd fw k x) ∧ Tch (· = b2) w w' := by
  obtain ⟨w', hr, hm, t⟩ := h.mw.store k hk x hx (by have h2 : 1048577 ≤ maxLen := (by decide); omega)
  exact ⟨w', hr, ⟨h.st.far t (fun j hj hT => hT.2.2.1 hj), (h.mc.touch t (fun e => h.ne e)).up (Nat.le_succ _), hm, h.ne, h.bel.trans (t.to_below (fun k hk => by rw [hk]; exact h.lo.2) h.bel.size), h.lo⟩, t⟩
/-- .. with the operation's copy. -/
structure Io (W w : World) (q p b1 b2 ob c n : Nat) (o : OpD) (M : SM) (fc fw : ByteArray → Nat) : Prop where
  il : Il W w q p b1 b2 (· = ob) c n M fc fw
  ro : w.heap[ob]? = some (.cells o.cells 34 (0, 0))
theorem Il.fresh (h : Il W w q p b1 b2 (fun _ => False) c n M fc fw) (o : OpD) : Io W (w.alloc (.cells o.cells 34)) q p b1 b2 w.heap.size c n o M fc fw := by
  have ba := (Below.refl w.heap.size w).alloc (Nat.le_refl _) (.cells o.cells 34)
  exact ⟨(h.re (Y := (· = w.heap.size)) (fun k hk hl => by omega)).below ba, heap_alloc_new _ _⟩
theorem Io.below (h : Io W w q p b1 b2 ob c n o M fc fw) (b : Below w.heap.size w w') : Io W w' q p b1 b2 ob c n o M fc fw := ⟨h.il.below b, (Tch.of_below (S := fun _ => False) b).row h.ro (fun h => h)⟩
theorem Io.dn {c' : Nat} (h : Io W w q p b1 b2 ob c n o M fc fw) (d : Dn w (fun k => W.heap.size ≤ k ∧ k ≠ b1 ∧ k ≠ b2 ∧ ¬ k = ob) c' q p M' w') : Io W w' q p b1 b2 ob c' n o M' fc fw := ⟨h.il.dn d, d.2.row h.ro (fun x => x.2.2.2 rfl)⟩
theorem Io.hT (h : Io W w q p b1 b2 ob c n o M fc fw) : ∀ k, w.heap.size ≤ k → W.heap.size ≤ k ∧ k ≠ b1 ∧ k ≠ b2 ∧ ¬ k = ob := h.il.hT (fun k hk => by have := row_lt h.ro; rw [hk]; exact this)
theorem Io.back (h : Io W w q p b1 b2 ob c n o M fc fw) : Il W w q p b1 b2 (fun _ => False) c n M fc fw := h.il.re (fun _ h _ => h.elim)
theorem Io.cells (h : Io W w q p b1 b2 ob c n o M fc fw) : w.cell? ⟨ob, 1, none⟩ = some (.string o.nm) ∧ w.cell? ⟨ob, 2, none⟩ = some (.slice o.A o.bs.length o.C) := ⟨held_cell h.ro rfl, held_cell h.ro rfl⟩
theorem Io.look (h : Io W w q p b1 b2 ob c n o M fc fw) (ok : OpOk W W.heap.size o) (x : Bool) (hx : (alook M.L o.nm).isSome = x) :
    Calls Try.prog 15 #[.pointer (some ⟨q, 0, none⟩), .string o.nm] w fun e w' => ∃ A m C, e = .returned (.tuple #[.slice A m C, .bool x]) ∧ w'.cell? ⟨ob, 1, none⟩ = some (.string o.nm) ∧ w'.cell? ⟨ob, 2, none⟩ = some (.slice o.A o.bs.length o.C) ∧ Hid (Io W w' q p b1 b2 ob c n o M fc fw) := by
  refine (Look_is h.il.st o.nm ok.nm).mono ?_
  rintro e w2 ⟨A, m, C, rfl, ow, b⟩
  have hI := h.below b
  exact ⟨A, m, C, by rw [hx], hI.cells.1, hI.cells.2, hid hI⟩
theorem Io.put (h : Io W w q p b1 b2 ob c n o M fc fw) (ok : OpOk W W.heap.size o) (hc : c + 2 ≤ 4194304) :
    Calls Try.prog 16 #[.pointer (some ⟨q, 0, none⟩), .string o.nm, .slice o.A o.bs.length o.C] w fun e w' => ∃ f, e = .returned (.int .i64 f) ∧ w'.cell? ⟨ob, 1, none⟩ = some (.string o.nm) ∧ Hid (Io W w' q p b1 b2 ob (c + 2) n o (putM M o.nm o.bs).2 fc fw) := by
  have hb := ok.bs
  refine (Put_is h.il.st hc h.hT o.nm ok.nm (ok.rd.below h.il.bel) (fun h0 g hg hT => ?_) (by omega)).mono ?_
  · have := ok.far h0 g hg
    have := hT.1
    omega
  rintro e w2 ⟨rfl, d⟩
  have := h.dn d
  exact ⟨_, rfl, this.cells.1, hid this⟩
theorem Io.del (h : Io W w q p b1 b2 ob c n o M fc fw) (ok : OpOk W W.heap.size o) (hc : c + 2 ≤ 4194304) :
    Calls Try.prog 17 #[.pointer (some ⟨q, 0, none⟩), .string o.nm] w fun e w' => ∃ f, e = .returned (.int .i64 f) ∧ w'.cell? ⟨ob, 1, none⟩ = some (.string o.nm) ∧ Hid (Io W w' q p b1 b2 ob (c + 2) n o (delM M o.nm).2 fc fw) := by
  refine (Delete_is h.il.st hc h.hT o.nm ok.nm).mono ?_
  rintro e w2 ⟨rfl, d⟩
  have hI := h.dn d
  exact ⟨_, rfl, hI.cells.1, hid hI⟩
theorem Io.tick (h : Io W w q p b1 b2 ob c n o M fc fw) (k : Int) : Calls Try.prog 18 #[.pointer (some ⟨q, 0, none⟩), .int .i64 k] w fun e w' => ∃ y, e = .returned (.int .i64 y) ∧ Hid (Io W w' q p b1 b2 ob c n o (tickM M k).2 fc fw) := by
  refine (Tick_is h.il.st h.hT k).mono ?_
  rintro e w2 ⟨rfl, d⟩
  exact ⟨_, rfl, hid (h.dn d)⟩
theorem Io.fail (h : Io W w q p b1 b2 ob c n o M fc fw) (k : Int) (y : Bool) (hk : k ≤ 9223372036854775807) : Calls Try.prog 12 #[.pointer (some ⟨q, 0, none⟩), .int .i64 k, .bool y] w fun e w' => e = .returned (.tuple #[]) ∧ Hid (Io W w' q p b1 b2 ob c n o (failS M k y) fc fw) := by
  refine (Fail_is h.il.st k y hk).mono ?_
  rintro e w2 ⟨rfl, d⟩
  exact ⟨rfl, hid (h.dn d)⟩
end Go.Proofs.Ytpdjdmgfhfaecaa
