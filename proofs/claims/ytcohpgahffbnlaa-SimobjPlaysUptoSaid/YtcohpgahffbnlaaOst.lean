/-
  A step of both stores: what lies around it. Conditions: those that each theorem names.
-/
import Derived.Test.YtcohpgahffbnlaaOrf
import Derived.Test.YtcohpgahffbnlaaOtx
namespace Go.Proofs.Ytcohpgahffbnlaa
open Go.RowKit Go.Icz Go.Maps Go.ChangeMaps Go.MapKept
set_option maxRecDepth 100000
set_option maxHeartbeats 4000000
variable {w w' W : World} {T T' : Nat → Prop} {m c c' d q p r bx : Nat} {M M' N N' : SM} {L L' : OM} {o : OpD}
theorem Half.wk (h : Half w T m c q p r M N) : Half w T w.heap.size c q p r M N := by
  obtain ⟨hm, T1, T2, h1, h2, h12, S, R⟩ := h
  exact ⟨Nat.le_refl _, T1, T2, fun k a => ⟨(h1 k a).1, by have := (h1 k a).2; omega⟩, fun k a => ⟨(h2 k a).1, by have := (h2 k a).2; omega⟩, h12, S, R⟩
/-- Bytes of a row. -/
def BytR (w : World) (g n : Nat) : Prop := n ≤ 9223372036854775807 ∧ ∃ cur, w.heap[g]? = some (.cells cur 5 (0, 0)) ∧ ∀ i, i < n → ∃ x : Int, cur[i]? = some (.int .u8 x)
theorem own_byt {B n C : Nat} {A : Option Addr} {l : List Nat} (h : KB.Own w B (.slice A n C) l) (h0 : 0 < l.length) : ∃ g, A = some ⟨g, 0, none⟩ ∧ B ≤ g ∧ BytR w g l.length := by
  unfold Kd.Own at h
  obtain ⟨_, h | ⟨g, cap, cur, hv, hg, hr, hn, hm, hs, ht⟩⟩ := h
  · exact absurd h.2 (by omega)
  · injection hv with e1 _ _
    refine ⟨g, e1, hg, by unfold maxLen at hm; omega, cur, hr, fun i hi => ⟨(l[i] : Int), ?_⟩⟩
    have h1 : cur.toList[i]? = (KB.cells l)[i]? := by rw [← ht, List.getElem?_take_of_lt (by show i < l.length * 1; omega)]
    have h2 := Kd.cells_get (K := KB) l i hi 0 (by decide)
    rw [← Array.getElem?_toList, h1]
    have e : i * KB.z + 0 = i := by show i * 1 + 0 = i; omega
    rw [e] at h2
    exact h2
theorem BytR.at {g n i : Nat} (h : BytR w g n) (hi : i < n) : ∃ x : Int, w.cell? ⟨g, i, none⟩ = some (.int .u8 x) ∧ w.frozen? ⟨g, i, none⟩ = false ∧ ∀ y : Int, BytR (w.setCell ⟨g, i, none⟩ (.int .u8 y)) g n ∧ Tch (· = g) w (w.setCell ⟨g, i, none⟩ (.int .u8 y)) := by
  obtain ⟨hm, cur, hr, hc⟩ := h
  obtain ⟨x, hx⟩ := hc i hi
  refine ⟨x, held_cell hr hx, held_frozen hr, fun y => ⟨⟨hm, _, row_set hr _, fun j hj => ?_⟩, Tch.set _ w ⟨g, i, none⟩ _ rfl⟩⟩
  obtain ⟨z, hz⟩ := hc j hj
  rcases Nat.lt_trichotomy i j with e | e | e
  · exact ⟨z, by rw [Array.getElem?_setIfInBounds_ne (by omega)]; exact hz⟩
  · subst e
    have hlt := (Array.getElem?_eq_some_iff.1 hz).1
    exact ⟨y, by rw [Array.getElem?_setIfInBounds_self_of_lt hlt]⟩
  · exact ⟨z, by rw [Array.getElem?_setIfInBounds_ne (by omega)]; exact hz⟩
/-- Both stores, and beside them the operation in its box. -/
structure Bx (T : Nat → Prop) (o : OpD) (bx c q p r : Nat) (M N : SM) (W w : World) : Prop where
  hf : Half w T w.heap.size c q p r M N
  tc : Tch T W w
  row : w.heap[bx]? = some (.cells o.cells 34 (0, 0))
  nb : ¬ T bx
  up : ∀ k, w.heap.size ≤ k → T k
  rd : KB.Rd w (.slice o.A o.bs.length o.C) o.bs
  fr : 0 < o.bs.length → ∀ g, (Value.slice o.A o.bs.length o.C).ownBlock = some g → ¬ T g
  nm : o.nm.size ≤ maxLen
  bs : o.bs.length ≤ 1048576
  nn : -9223372036854775808 ≤ o.n ∧ o.n ≤ 9223372036854775807
theorem Bx.next (h : Bx T o bx c q p r M N W w) (H : HS w T c' q p r M' N' w') : Bx T o bx c' q p r M' N' W w' :=
  ⟨H.1, h.tc.trans H.2, H.2.row h.row h.nb, h.nb, fun k hk => h.up k (Nat.le_trans H.2.size hk), rd_tch h.rd H.2 h.fr, h.fr, h.nm, h.bs, h.nn⟩
theorem Bx.below (h : Bx T o bx c q p r M N W w) (b : Below w.heap.size w w') : Bx T o bx c q p r M N W w' :=
  h.next ⟨(h.hf.below b).wk, Tch.of_below b⟩
theorem Bx.le (h : Bx T o bx c q p r M N W w) (hd : c ≤ d) (hh : d ≤ 4194304) : Bx T o bx d q p r M N W w :=
  ⟨h.hf.le hd hh, h.tc, h.row, h.nb, h.up, h.rd, h.fr, h.nm, h.bs, h.nn⟩
theorem Bx.c0 (h : Bx T o bx c q p r M N W w) : w.cell? ⟨bx, 0, none⟩ = some (.int .i64 o.kd) := held_cell h.row rfl
theorem Bx.c1 (h : Bx T o bx c q p r M N W w) : w.cell? ⟨bx, 1, none⟩ = some (.string o.nm) := held_cell h.row rfl
theorem Bx.c2 (h : Bx T o bx c q p r M N W w) : w.cell? ⟨bx, 2, none⟩ = some (.slice o.A o.bs.length o.C) := held_cell h.row rfl
theorem Bx.c3 (h : Bx T o bx c q p r M N W w) : w.cell? ⟨bx, 3, none⟩ = some (.int .i64 o.n) := held_cell h.row rfl
theorem Bx.c4 (h : Bx T o bx c q p r M N W w) : w.cell? ⟨bx, 4, none⟩ = some (.bool o.y) := held_cell h.row rfl
/-- Both agree, in their box. -/
def Bp (T : Nat → Prop) (o : OpD) (bx c q p r : Nat) (W w : World) : Prop := ∃ M L, Bx T o bx c q p r M (wl M L) W w ∧ AgrL M L ∧ Tog M
theorem Pr.box {B : Nat} (H : Pr w T c q p r) (hT : ∀ k, w.heap.size ≤ k → T k) (ok : OpOk w B o) (hB : ∀ k, k < B → ¬ T k) :
    ∃ T1 : Nat → Prop, Bp T1 o w.heap.size c q p r (w.alloc (.cells #[.int .i64 o.kd, .string o.nm, .slice o.A o.bs.length o.C, .int .i64 o.n, .bool o.y] 34)) (w.alloc (.cells #[.int .i64 o.kd, .string o.nm, .slice o.A o.bs.length o.C, .int .i64 o.n, .bool o.y] 34)) ∧
      ∀ wx d, Bp T1 o w.heap.size d q p r (w.alloc (.cells #[.int .i64 o.kd, .string o.nm, .slice o.A o.bs.length o.C, .int .i64 o.n, .bool o.y] 34)) wx → Pr wx T d q p r ∧ Tch T w wx := by
  obtain ⟨m, M, L, H, ag, tg⟩ := H
  have hm := H.nw
  have b1 : Below w.heap.size w (w.alloc (.cells #[.int .i64 o.kd, .string o.nm, .slice o.A o.bs.length o.C, .int .i64 o.n, .bool o.y] 34)) := (Below.refl _ w).alloc (Nat.le_refl _) _
  have hs := World.size_alloc w (.cells #[.int .i64 o.kd, .string o.nm, .slice o.A o.bs.length o.C, .int .i64 o.n, .bool o.y] 34)
  refine ⟨fun k => T k ∧ k ≠ w.heap.size, ⟨M, L, ⟨(((H.below b1).to (T' := fun k => T k ∧ k ≠ w.heap.size) (fun k a b => ⟨a, by omega⟩)).wk), Tch.refl _ _, heap_alloc_new w _, fun h => h.2 rfl, fun k hk => ⟨hT k (by omega), by omega⟩, ok.rd.below b1, fun h0 g hg ht => hB g (ok.far h0 g hg) ht.1, ok.nm, ok.bs, ok.n⟩, ag, tg⟩, ?_⟩
  rintro wx d ⟨M', L', h, ag', tg'⟩
  exact ⟨⟨_, M', L', h.hf.to (fun k a _ => a.1), ag', tg'⟩, (Tch.of_below b1).trans (h.tc.mono (fun k a => a.1))⟩
theorem Bp.below (h : Bp T o bx c q p r W w) (b : Below w.heap.size w w') : Bp T o bx c q p r W w' := by
  obtain ⟨M, L, h, x⟩ := h
  exact ⟨M, L, h.below b, x⟩
theorem Bp.le (h : Bp T o bx c q p r W w) (hd : c ≤ d) (hh : d ≤ 4194304) : Bp T o bx d q p r W w := by
  obtain ⟨M, L, h, x⟩ := h
  exact ⟨M, L, h.le hd hh, x⟩
theorem num63 {k : ByteArray} (h : k.size ≤ maxLen) : k.size ≤ 9223372036854775807 := by unfold maxLen at h; omega
/-- Two calls of one operation: what both answer, and both behind it. -/
theorem Bp.del (h : Bp T o bx c q p r W w) (hc : c + 2 ≤ 4194304) : ∃ (x : Int) (P : World → Prop), (Calls Try.prog 20 #[.pointer (some ⟨q, 0, none⟩), .string o.nm] w fun e w' => e = .returned (.int .i64 x) ∧ w'.cell? ⟨bx, 1, none⟩ = some (.string o.nm) ∧ Hid (P w')) ∧
    ∀ w1, Hid (P w1) → Calls Try.prog 21 #[.pointer (some ⟨r, 0, none⟩), .string o.nm] w1 fun e w' => e = .returned (.int .i64 x) ∧ w'.cell? ⟨bx, 1, none⟩ = some (.string o.nm) ∧ Hid (Bp T o bx (c + 2) q p r W w') := by
  obtain ⟨M, L, h, ag, tg⟩ := h
  obtain ⟨L', e, ag'⟩ := del_agr ag o.nm
  refine ⟨(delM M o.nm).1, fun w1 => Bx T o bx (c + 2) q p r (delM M o.nm).2 (wl M L) W w1, ?_, fun w1 h1 => ?_⟩
  · refine (h.hf.del h.up hc o.nm h.nm).mono ?_
    rintro e w1 ⟨rfl, H⟩
    exact ⟨rfl, (h.next H).c1, hid (h.next H)⟩
  · have h1 := h1.out
    refine (h1.hf.rdel h1.up (ag.wf h.hf.wf) o.nm (num63 h.nm)).mono ?_
    rintro e1 w2 ⟨rfl, H⟩
    rw [e] at H ⊢
    exact ⟨rfl, (h1.next H).c1, hid ⟨_, L', h1.next H, ag', tg.del _⟩⟩
theorem Bp.tick (h : Bp T o bx c q p r W w) : ∃ (x : Int) (P : World → Prop), (Calls Try.prog 9 #[.pointer (some ⟨q, 0, none⟩), .int .i64 o.n] w fun e w' => e = .returned (.int .i64 x) ∧ w'.cell? ⟨bx, 3, none⟩ = some (.int .i64 o.n) ∧ Hid (P w')) ∧
    ∀ w1, Hid (P w1) → Calls Try.prog 24 #[.pointer (some ⟨r, 0, none⟩), .int .i64 o.n] w1 fun e w' => e = .returned (.int .i64 x) ∧ w'.cell? ⟨bx, 3, none⟩ = some (.int .i64 o.n) ∧ Hid (Bp T o bx c q p r W w') := by
  obtain ⟨M, L, h, ag, tg⟩ := h
  obtain ⟨e1, e2⟩ := tick_agr M L o.n
  have hMc : (tickM M o.n).2.ch = M.ch ∧ (tickM M o.n).2.L = M.L := by unfold tickM; split <;> exact ⟨rfl, rfl⟩
  refine ⟨(tickM M o.n).1, fun w1 => Bx T o bx c q p r (tickM M o.n).2 (wl M L) W w1, ?_, fun w1 h1 => ?_⟩
  · refine (h.hf.tick h.up o.n).mono ?_
    rintro e w1 ⟨rfl, H⟩
    exact ⟨rfl, (h.next H).c3, hid (h.next H)⟩
  · have h1 := h1.out
    refine (h1.hf.rtick h1.up (ag.wf h.hf.wf) o.n).mono ?_
    rintro e w2 ⟨rfl, H⟩
    rw [e2] at H
    rw [e1]
    exact ⟨rfl, (h1.next H).c3, hid ⟨_, L, h1.next H, ⟨fun k => by rw [hMc.2]; exact ag.al k, ag.ri⟩, tg.same hMc.1 hMc.2⟩⟩
theorem Bp.lag (h : Bp T o bx c q p r W w) : ∃ (x : Int) (P : World → Prop), (Calls Try.prog 11 #[.pointer (some ⟨q, 0, none⟩), .int .i64 o.n] w fun e w' => e = .returned (.int .i64 x) ∧ w'.cell? ⟨bx, 3, none⟩ = some (.int .i64 o.n) ∧ Hid (P w')) ∧
    ∀ w1, Hid (P w1) → Calls Try.prog 25 #[.pointer (some ⟨r, 0, none⟩), .int .i64 o.n] w1 fun e w' => e = .returned (.int .i64 x) ∧ w'.cell? ⟨bx, 3, none⟩ = some (.int .i64 o.n) ∧ Hid (Bp T o bx c q p r W w') := by
  obtain ⟨M, L, h, ag, tg⟩ := h
  obtain ⟨e1, e2⟩ := lag_agr M L o.n
  have hMc : (lagM M o.n).2.ch = M.ch ∧ (lagM M o.n).2.L = M.L := by unfold lagM; split <;> exact ⟨rfl, rfl⟩
  refine ⟨(lagM M o.n).1, fun w1 => Bx T o bx c q p r (lagM M o.n).2 (wl M L) W w1, ?_, fun w1 h1 => ?_⟩
  · refine (h.hf.lag h.up o.n).mono ?_
    rintro e w1 ⟨rfl, H⟩
    exact ⟨rfl, (h.next H).c3, hid (h.next H)⟩
  · have h1 := h1.out
    refine (h1.hf.rlag h1.up o.n).mono ?_
    rintro e w2 ⟨rfl, H⟩
    rw [e2] at H
    rw [e1]
    exact ⟨rfl, (h1.next H).c3, hid ⟨_, L, h1.next H, ⟨fun k => by rw [hMc.2]; exact ag.al k, ag.ri⟩, tg.same hMc.1 hMc.2⟩⟩
theorem Bp.fail (h : Bp T o bx c q p r W w) : ∃ (P : World → Prop), (Calls Try.prog 26 #[.pointer (some ⟨q, 0, none⟩), .int .i64 o.n, .bool o.y] w fun e w' => e = .returned (.tuple #[]) ∧ (w'.cell? ⟨bx, 3, none⟩ = some (.int .i64 o.n) ∧ w'.cell? ⟨bx, 4, none⟩ = some (.bool o.y)) ∧ Hid (P w')) ∧
    ∀ w1, Hid (P w1) → Calls Try.prog 27 #[.pointer (some ⟨r, 0, none⟩), .int .i64 o.n, .bool o.y] w1 fun e w' => e = .returned (.tuple #[]) ∧ Hid (Bp T o bx c q p r W w') := by
  obtain ⟨M, L, h, ag, tg⟩ := h
  refine ⟨fun w1 => Bx T o bx c q p r (failS M o.n o.y) (wl M L) W w1, ?_, fun w1 h1 => ?_⟩
  · refine (h.hf.fail h.up o.n o.y h.nn.2).mono ?_
    rintro e w1 ⟨rfl, H⟩
    exact ⟨rfl, ⟨(h.next H).c3, (h.next H).c4⟩, hid (h.next H)⟩
  · have h1 := h1.out
    refine (h1.hf.rfail h1.up o.n o.y).mono ?_
    rintro e w2 ⟨rfl, H⟩
    exact ⟨rfl, hid ⟨_, L, h1.next H, ⟨fun k => ag.al k, ag.ri⟩, tg.same rfl rfl⟩⟩
theorem lists2 (h : Half w T m c q p r M N) (hT : ∀ k, w.heap.size ≤ k → T k) (hc : c + 1 ≤ 4194304) (hwf : WfS N d) (k : ByteArray) (hk : k.size ≤ maxLen) :
    Calls Try.prog 12 #[.pointer (some ⟨q, 0, none⟩), .string k] w fun e w1 => ∃ v, e = .returned (.tuple #[v, .int .i64 (listM M k).2.1]) ∧ HS w T (c + 1) q p r (listM M k).2.2 N w1 ∧
      Calls Try.prog 22 #[.pointer (some ⟨r, 0, none⟩), .string k] w1 fun e w2 => ∃ u, e = .returned (.tuple #[u, .int .i64 (listM N k).2.1]) ∧ KS.Rd w2 v ((listM M k).1.map kb) ∧ KS.Rd w2 u (if begB k = false ∨ errS N ≠ 0 then [] else rlist N k) ∧ HS w1 T (c + 1) q p r (listM M k).2.2 (listM N k).2.2 w2 := by
  obtain ⟨hm, T1, T2, h1, h2, h12, S, lv, cv, xs, R⟩ := h
  have hs : ∀ k, (T1 k ∨ w.heap.size ≤ k) → T k := fun k a => a.elim (fun b => (h1 k b).1) (hT k)
  have far : ∀ k, (T1 k ∨ w.heap.size ≤ k) → ¬ T2 k := by
    rintro k (a | a) b
    · exact h12 k a b
    · have := (h2 k b).2; omega
  refine (List_is (S.re (T' := fun k => T1 k ∨ w.heap.size ≤ k) (fun k a _ => .inl a)) hc (fun k a => .inr a) k hk).mono ?_
  rintro e w1 ⟨A, n, C, rfl, ov, S1, t1⟩
  have R1 := R.far t1 far
  have z1 := t1.size
  refine ⟨_, rfl, ⟨⟨Nat.le_refl _, fun k => (T1 k ∨ w.heap.size ≤ k) ∧ k < w1.heap.size, T2, fun k a => ⟨hs k a.1, a.2⟩, fun k a => ⟨(h2 k a).1, by have := (h2 k a).2; omega⟩, fun k a => far k a.1, S1.re (fun k a b => ⟨a, b⟩), _, _, _, R1⟩, t1.mono hs⟩, ?_⟩
  refine (RList_is (R1.re (T' := fun k => T2 k ∨ w1.heap.size ≤ k) (fun k a _ => .inl a)) hwf (fun k a => .inr a) k (num63 hk) hwf.cz).mono ?_
  rintro e w2 ⟨u, rfl, ou, R2, t2⟩
  have z2 := t2.size
  have ft : ∀ k, (T2 k ∨ w1.heap.size ≤ k) → T k := fun k a => a.elim (fun b => (h2 k b).1) (fun b => hT k (by omega))
  have f2 : ∀ k, ((T1 k ∨ w.heap.size ≤ k) ∧ k < w1.heap.size) → ¬ (T2 k ∨ w1.heap.size ≤ k) := fun k a b => b.elim (far k a.1) (fun b => by have := a.2; omega)
  refine ⟨u, rfl, rd_tch ov.rd t2 (fun _ b hb hb2 => ?_), ou.rd, ⟨Nat.le_refl _, fun k => (T1 k ∨ w.heap.size ≤ k) ∧ k < w1.heap.size, fun k => (T2 k ∨ w1.heap.size ≤ k) ∧ k < w2.heap.size, fun k a => ⟨hs k a.1, by have := a.2; omega⟩, fun k a => ⟨ft k a.1, a.2⟩, fun k a b => f2 k a b.1, ((S1.re (T' := fun k => (T1 k ∨ w.heap.size ≤ k) ∧ k < w1.heap.size) (fun k a b => ⟨a, b⟩)).far t2 (fun k a b => f2 k b a)), _, _, _, R2.re (fun k a b => ⟨a, b⟩)⟩, t2.mono ft⟩
  have h3 := World.ownsRow.lt ov b hb
  rcases hb2 with hb2 | hb2
  · have := (h2 b hb2).2
    omega
  · omega
theorem listM_len {M : SM} {c : Nat} (h : WfS M c) (p : ByteArray) : ((listM M p).1.map kb).length ≤ 1099511627776 := by
  rw [List.length_map]
  unfold listM
  split
  · simp
  split
  · simp
  · show (rises (listed M p)).length ≤ _
    rw [rises_length]
    have h1 : (listed M p).length ≤ (backs (unitOf M.L) (lateS M)).length := List.length_filter_le _ _
    have h2 := len_back (unitOf M.L) (lateS M)
    have h3 : (unitOf M.L).length = M.L.length := by simp [unitOf]
    have h4 : (lateS M).length ≤ M.ch.length := by
      have := (List.takeWhile_prefix (lateB M) (l := M.ch.reverse)).length_le
      rw [List.length_reverse] at this
      exact this
    have := h.ln
    have := h.lc
    have := h.hc
    omega
theorem Bp.list (h : Bp T o bx c q p r W w) (hc : c + 1 ≤ 4194304) : ∃ (x : Int) (ks : List ByteArray), Calls Try.prog 12 #[.pointer (some ⟨q, 0, none⟩), .string o.nm] w fun e w1 => ∃ v, e = .returned (.tuple #[v, .int .i64 x]) ∧ w1.cell? ⟨bx, 1, none⟩ = some (.string o.nm) ∧
    Hid (Calls Try.prog 22 #[.pointer (some ⟨r, 0, none⟩), .string o.nm] w1 fun e w2 => ∃ u, e = .returned (.tuple #[u, .int .i64 x]) ∧ Hid (Calls Try.prog 23 #[v, u] w2 fun e w3 => e = .returned (.bool true) ∧ Hid (Bp T o bx (c + 1) q p r W w3))) := by
  obtain ⟨M, L, h, ag, tg⟩ := h
  obtain ⟨e1, e2, e3, e4⟩ := list_agr M L o.nm
  have hwf := h.hf.wf
  have hMc : (listM M o.nm).2.2.ch = M.ch ∧ (listM M o.nm).2.2.L = M.L := by
    unfold listM
    split
    · exact ⟨rfl, rfl⟩
    · split <;> exact ⟨rfl, rfl⟩
  refine ⟨(listM M o.nm).2.1, (listM M o.nm).1.map kb, ?_⟩
  refine (lists2 h.hf h.up hc (ag.wf hwf) o.nm h.nm).mono ?_
  rintro e w1 ⟨v, rfl, H1, K⟩
  have B1 := h.next H1
  refine ⟨v, rfl, B1.c1, hid (K.mono ?_)⟩
  rintro e w2 ⟨u, rfl, rv, ru, H2⟩
  rw [e2] at H2
  have B2 := B1.next H2
  have hln := list_names tg hwf.so hwf.nn o.nm
  have hif : (if begB o.nm = false ∨ errS (wl M L) ≠ 0 then ([] : List ByteArray) else rlist (wl M L) o.nm) = (listM M o.nm).1.map kb := by
    rw [hln, e4]
    by_cases hx : begB o.nm = false ∨ errS M ≠ 0
    · rw [if_pos hx, if_pos (e3.2 hx)]
    · rw [if_neg hx, if_neg (fun hy => hx (e3.1 hy))]
  rw [hif] at ru
  rw [e1]
  refine ⟨u, rfl, hid ?_⟩
  have hlm := listM_len hwf o.nm
  refine (Texts_is v u _ _ w2 rv ru hlm hlm).mono ?_
  rintro e w3 ⟨rfl, b3⟩
  exact ⟨by simp, hid ⟨_, L, B2.below b3, ⟨fun k => by rw [hMc.2]; exact ag.al k, ag.ri⟩, tg.same hMc.1 hMc.2⟩⟩
end Go.Proofs.Ytcohpgahffbnlaa
