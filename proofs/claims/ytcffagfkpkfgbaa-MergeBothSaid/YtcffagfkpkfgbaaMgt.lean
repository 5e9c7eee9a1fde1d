/-
  The rows that stand in the heap, as lists by their places; take. Conditions: those that each theorem names.
-/
import Derived.Test.YtcffagfkpkfgbaaMge
import Derived.Laws.Slices
namespace Go.Icz
open Go.RowKit
/-- The heap's rows are those of R that are not empty. -/
structure ItR (l : List HR) (R : List (List EV)) : Prop where
  nd : (l.map (·.p)).Nodup
  at_ : ∀ r ∈ l, R[r.p]? = some r.l
  all : ∀ (p : Nat) t, R[p]? = some t → t ≠ [] → ∃ r ∈ l, r.p = p
theorem ItR.perm {l m : List HR} {R : List (List EV)} (h : ItR l R) (p : m.Perm l) : ItR m R :=
  ⟨(p.map (·.p)).nodup_iff.2 h.nd, fun r hr => h.at_ r (p.mem_iff.1 hr), fun q t h1 h2 => by obtain ⟨r, hr, e⟩ := h.all q t h1 h2; exact ⟨r, p.mem_iff.2 hr, e⟩⟩
theorem ItR.root {nb : Bool} {r : HR} {l : List HR} {R : List (List EV)} (h : ItR (r :: l) R) (hf : HpF (hlt nb) (r :: l) (r :: l).length 0) {x : EV} {t : List EV} (hr : r.l = x :: t) : IsB kyV nb R R.length x t r.p := by
  have h0 := h.at_ r (List.mem_cons_self ..)
  rw [hr] at h0
  refine ⟨(List.getElem?_eq_some_iff.1 h0).1, h0, fun i y u hi hne he => ?_⟩
  obtain ⟨r', hr', e⟩ := h.all i _ he (by simp)
  have e2 := h.at_ r' hr'
  rw [e, he] at e2
  injection e2 with e2
  obtain ⟨k, hk, ek⟩ := List.getElem_of_mem hr'
  have := hf.root (ord_hlt nb) (Nat.le_refl _) (x := r) rfl k r' hk (by rw [List.getElem?_eq_getElem hk, ek])
  unfold hlt at this
  rw [← e2, hr, e] at this
  exact rlt_total kyV nb hne this
theorem ItR.gone {r : HR} {l : List HR} {R : List (List EV)} (h : ItR (r :: l) R) : ItR l (R.set r.p []) := by
  have hn := h.nd
  rw [List.map_cons, List.nodup_cons] at hn
  have ne : ∀ s ∈ l, s.p ≠ r.p := fun s hs e => hn.1 (List.mem_map.2 ⟨s, hs, e⟩)
  refine ⟨hn.2, fun s hs => ?_, fun p t h1 h2 => ?_⟩
  · rw [List.getElem?_set_ne (fun e => ne s hs e.symm)]
    exact h.at_ s (List.mem_cons_of_mem _ hs)
  · rw [List.getElem?_set] at h1
    split at h1
    · split at h1
      · injection h1 with h1; exact absurd h1.symm h2
      · cases h1
    · obtain ⟨s, hs, e⟩ := h.all p t h1 h2
      rcases List.mem_cons.1 hs with rfl | hs
      · rename_i hne; exact absurd e hne
      · exact ⟨s, hs, e⟩
theorem ItR.less {r r' : HR} {l : List HR} {R : List (List EV)} (h : ItR (r :: l) R) (hp : r'.p = r.p) : ItR (r' :: l) (R.set r.p r'.l) := by
  have hn := h.nd
  rw [List.map_cons, List.nodup_cons] at hn
  have ne : ∀ s ∈ l, s.p ≠ r.p := fun s hs e => hn.1 (List.mem_map.2 ⟨s, hs, e⟩)
  have hlt : r.p < R.length := (List.getElem?_eq_some_iff.1 (h.at_ r (List.mem_cons_self ..))).1
  refine ⟨by rw [List.map_cons, hp, List.nodup_cons]; exact hn, fun s hs => ?_, fun p t h1 h2 => ?_⟩
  · rcases List.mem_cons.1 hs with rfl | hs
    · rw [hp, List.getElem?_set_self hlt]
    · rw [List.getElem?_set_ne (fun e => ne s hs e.symm)]
      exact h.at_ s (List.mem_cons_of_mem _ hs)
  · by_cases e : p = r.p
    · exact ⟨r', List.mem_cons_self .., by rw [hp, e]⟩
    · rw [List.getElem?_set_ne (fun e' => e e'.symm)] at h1
      obtain ⟨s, hs, e'⟩ := h.all p t h1 h2
      rcases List.mem_cons.1 hs with rfl | hs
      · exact absurd e'.symm e
      · exact ⟨s, List.mem_cons_of_mem _ hs, e'⟩
theorem ItR.none {R : List (List EV)} (h : ItR [] R) : NoB R R.length := fun i y u hi he => by
  obtain ⟨r, hr, _⟩ := h.all i _ he (by simp)
  cases hr
/-- An entry whose labels can be read; its numbers are numbers. -/
def GoodE (W0 : World) (x : EV) : Prop := KLab.Rd W0 (lbV x) x.1.labs ∧ (Lit.int .i64 x.1.seq).wf = true ∧ x.1.labs.length ≤ 4398046511104
/-- Each entry's labels can be read. -/
def LbR (W0 : World) (R : List (List EV)) : Prop := ∀ t ∈ R, ∀ x ∈ t, GoodE W0 x
theorem LbR.set {W0 : World} {R : List (List EV)} (h : LbR W0 R) {p : Nat} {x : EV} {t : List EV} (hR : R[p]? = some (x :: t)) : LbR W0 (R.set p t) := by
  intro s hs y hy
  rcases List.mem_or_eq_of_mem_set hs with h' | rfl
  · exact h s h' y hy
  · exact h _ (List.mem_of_getElem? hR) y (List.mem_cons_of_mem _ hy)
end Go.Icz
namespace Go.Proofs.Ytcffagfkpkfgbaa
open Go.RowKit Go.Icz
/-- What is left to come of the heap in block q: the rows' stream S. -/
def TkS (W0 w : World) (q : Nat) (rs : List Value) (nb : Bool) (S : List EV) : Prop := ∃ l R, Hq W0 w q rs nb l ∧ ItR l R ∧ LbR W0 R ∧ strm kyV nb R = S
theorem TkS.below {W0 w w' : World} {q : Nat} {rs : List Value} {nb : Bool} {S : List EV} (h : TkS W0 w q rs nb S) (hb : Below w.heap.size w w') : TkS W0 w' q rs nb S := by
  obtain ⟨l, R, h1, h2⟩ := h
  exact ⟨l, R, h1.below hb, h2⟩
theorem TkS.tch {S' : Nat → Prop} {W0 w w' : World} {q : Nat} {rs : List Value} {nb : Bool} {S : List EV} (h : TkS W0 w q rs nb S) (t : Tch S' w w') (hq : ¬ S' q) (hr : ∀ k, S' k → ¬ isRow w k) (hlo : ∀ k, S' k → W0.heap.size ≤ k) : TkS W0 w' q rs nb S := by
  obtain ⟨l, R, ⟨⟨v, hp⟩, h1⟩, h2⟩ := h
  obtain ⟨ty, a1, a2⟩ := hp.at_
  exact ⟨l, R, ⟨⟨v, ⟨⟨ty, t.row a1 hq, a2⟩, hp.own.touch t (fun j hj e => hr j hj (hp.isRow e)), hp.lo, Tch.below hp.bel t hlo hp.bel.size, hp.rd, hp.len⟩⟩, h1⟩, h2⟩
/-- The heap as it is taken from: its first row, and what becomes of the others. -/
theorem TkS.cons {W0 w : World} {q : Nat} {rs : List Value} {nb : Bool} {x : EV} {S : List EV} (h : TkS W0 w q rs nb (x :: S)) :
    ∃ r l t, Hq W0 w q rs nb (r :: l) ∧ r.l = x :: t ∧ r.l ≠ [] ∧ KEnt.Rd W0 (.slice r.A r.l.length r.c) r.l ∧ GoodE W0 x ∧ l.length < 1099511627776 ∧
      (t = [] → ∀ w' m, Hq W0 w' q rs nb m → m.Perm l → TkS W0 w' q rs nb S) ∧ (∀ r' : HR, r'.l = t → r'.p = r.p → ∀ w' m, Hq W0 w' q rs nb m → m.Perm (r' :: l) → TkS W0 w' q rs nb S) := by
  obtain ⟨l, R, h1, h2, h3, h4⟩ := h
  obtain ⟨⟨v, hp⟩, hf⟩ := h1
  match l with
  | [] =>
    rw [strm_none kyV h2.none] at h4
    cases h4
  | r :: l =>
    have hrd := hp.rd r (List.mem_cons_self ..)
    obtain ⟨y, t, hrl, _⟩ := HR.hd hrd.1
    have hB := h2.root hf hrl
    rw [strm_some kyV hB] at h4
    injection h4 with e1 e2
    subst e1
    refine ⟨r, l, t, ⟨⟨v, hp⟩, hf⟩, hrl, hrd.1, hrd.2, h3 _ (List.mem_of_getElem? hB.2.1) _ (List.mem_cons_self ..), by have := hp.len; simp at this; omega, ?_, ?_⟩
    · rintro rfl w' m hm p
      exact ⟨m, _, hm, h2.gone.perm p, h3.set hB.2.1, e2⟩
    · rintro r' rfl hp' w' m hm p
      exact ⟨m, _, hm, (h2.less hp').perm p, h3.set hB.2.1, e2⟩
theorem TkS.nil {W0 w : World} {q : Nat} {rs : List Value} {nb : Bool} (h : TkS W0 w q rs nb []) : Hq W0 w q rs nb [] := by
  obtain ⟨l, R, h1, h2, h3, h4⟩ := h
  match l with
  | [] => exact h1
  | r :: l =>
    obtain ⟨⟨v, hp⟩, hf⟩ := h1
    have hrd := hp.rd r (List.mem_cons_self ..)
    obtain ⟨y, t, hrl, _⟩ := HR.hd hrd.1
    rw [strm_some kyV (h2.root hf hrl)] at h4
    cases h4
theorem run_tail {A : Option Addr} {n c : Nat} (h : 1 ≤ n) (hc : n ≤ c) (wx : World) : (Instr.slice 22 (.slice A n c) (some (.int .i64 1)) none none).run Try.prog wx = .ok (sliced A 1 n c 4) wx := by
  have := run_slice_l (P := Try.prog) (w := wx) 22 A n c Try.underlying22 .i64 (1 : Int) (by omega) (by omega)
  rw [this]
  have hz : (sizeOf (Try.prog.elem 22)).run Try.prog wx = .ok 4 wx := by go_simp
  rw [hz]
  simp [Result.andThen]
theorem tail_rd {W0 : World} {A : Option Addr} {n c : Nat} {x : EV} {t : List EV} (h : KEnt.Rd W0 (.slice A n c) (x :: t)) : ∃ A', (∀ wx, (Instr.slice 22 (.slice A n c) (some (.int .i64 1)) none none).run Try.prog wx = .ok (.slice A' t.length (c - 1)) wx) ∧ KEnt.Rd W0 (.slice A' t.length (c - 1)) t := by
  obtain ⟨A0, c0, hv, hc⟩ := h.form
  injection hv with e1 e2 e3
  subst e1 e2 e3
  rw [List.length_cons] at hc
  have hp := h.part 1 (x :: t).length (by simp) (Nat.le_refl _)
  have e : ((x :: t).drop 1).take ((x :: t).length - 1) = t := by simp
  rw [e] at hp
  refine ⟨if c = 1 then A else A.map (·.add (1 * 4)), fun wx => ?_, ?_⟩
  · rw [run_tail (by simp) (by simpa using hc)]
    unfold sliced
    simp
  · unfold sliced at hp
    simp only [List.length_cons, Nat.add_sub_cancel] at hp
    exact hp
set_option maxRecDepth 100000 in
set_option maxHeartbeats 4000000 in
theorem take_is {W0 w : World} {q : Nat} {rs : List Value} {nb : Bool} {x : EV} {S : List EV} (h : TkS W0 w q rs nb (x :: S)) :
    Calls Try.prog 23 #[.pointer (some ⟨q, 0, none⟩)] w fun e w' => e = .returned (entV x) ∧ TkS W0 w' q rs nb S ∧ Fr (· = q) w w' := by
  obtain ⟨r, l, t, hq, hr, hne, hrd, hlb, hlen, k1, k2⟩ := h.cons
  obtain ⟨A, c, lr, p⟩ := r
  simp only at hr
  subst hr
  obtain ⟨A', hrun, hrd'⟩ := tail_rd hrd
  obtain ⟨b, off, hA, hb, hcell⟩ := hrd.at (j := 0) (by simp)
  simp only at hA
  subst hA
  have hqlt : q < w.heap.size := by
    obtain ⟨⟨v, hp⟩, _⟩ := hq
    exact hp.lt
  have hbel : Below W0.heap.size W0 w := by
    obtain ⟨⟨v, hp⟩, _⟩ := hq
    exact hp.bel
  have hlo : W0.heap.size ≤ q := by
    obtain ⟨⟨v, hp⟩, _⟩ := hq
    exact hp.lo
  have P1 := fun o => cPop_is (hq.below ((Below.refl w.heap.size w).alloc (Nat.le_refl _) o))
  unfold entV rowI at *
  unfold hpI at P1
  have hx : ∀ w', Below W0.heap.size W0 w' → w'.cell? ⟨b, off, none⟩ = some (.int .i64 x.1.seq) ∧ w'.cell? ⟨b, off + 1, none⟩ = some (.int .i64 x.1.time) ∧ w'.cell? ⟨b, off + 2, none⟩ = some (.slice x.2.1 x.1.labs.length x.2.2) ∧ w'.cell? ⟨b, off + 3, none⟩ = some (.string ⟨x.1.line.toArray⟩) := by
    intro w' hw
    have k := fun i u hi hu => (hw.cell (p := ⟨b, off + (0 * 4 + i), none⟩) hb).trans (hcell i u hi hu)
    simp only [Nat.zero_mul, Nat.zero_add] at k
    exact ⟨k 0 _ (by decide) rfl, k 1 _ (by decide) rfl, k 2 _ (by decide) rfl, k 3 _ (by decide) rfl⟩
  have P2 := fun w2 m2 (hw : Hq W0 w2 q rs nb m2) (ht : t ≠ []) hl => cPush_is (r := ⟨A', c - 1, t, p⟩) hw ⟨ht, hrd'⟩ hl
  unfold rowI hpI at P2
  simp only [List.length_cons] at P1 hrun
  simp only at P2
  clear hcell hq h hrd hrd' hne
  have m2 : ∀ (n : Nat) wx, (Instr.typeAssert (.iface 58 (.agg #[.slice (some ⟨b, off, none⟩) n c, .int .i64 (p : Int)])) 20 58 false).run Try.prog wx = .ok (.agg #[.slice (some ⟨b, off, none⟩) n c, .int .i64 (p : Int)]) wx := fun _ _ => by kernel_rfl
  have four : ∀ (w2 : World) (u0 u1 u2 u3 : Value), Tch (· = w.heap.size) w2 ((((w2.setCell ⟨w.heap.size, 0, none⟩ u0).setCell ⟨w.heap.size, 1, none⟩ u1).setCell ⟨w.heap.size, 2, none⟩ u2).setCell ⟨w.heap.size, 3, none⟩ u3) := fun w2 u0 u1 u2 u3 => (((Tch.set (· = w.heap.size) w2 ⟨w.heap.size, 0, none⟩ u0 rfl).trans (Tch.set _ _ ⟨w.heap.size, 1, none⟩ u1 rfl)).trans (Tch.set _ _ ⟨w.heap.size, 2, none⟩ u2 rfl)).trans (Tch.set _ _ ⟨w.heap.size, 3, none⟩ u3 rfl)
  have hqne : q ≠ w.heap.size := by omega
  have last : ∀ (w2 : World) (u0 u1 u2 u3 : Value), TkS W0 w2 q rs nb S → Fr (· = q) (w.alloc (.cells #[.int .i64 0, .int .i64 0, .slice none 0 0, .string ⟨#[]⟩] 34)) w2 → w2.heap[w.heap.size]? = some (.cells #[.int .i64 0, .int .i64 0, .slice none 0 0, .string ⟨#[]⟩] 34 (0, 0)) → TkS W0 ((((w2.setCell ⟨w.heap.size, 0, none⟩ u0).setCell ⟨w.heap.size, 1, none⟩ u1).setCell ⟨w.heap.size, 2, none⟩ u2).setCell ⟨w.heap.size, 3, none⟩ u3) q rs nb S ∧ Fr (· = q) w ((((w2.setCell ⟨w.heap.size, 0, none⟩ u0).setCell ⟨w.heap.size, 1, none⟩ u1).setCell ⟨w.heap.size, 2, none⟩ u2).setCell ⟨w.heap.size, 3, none⟩ u3) := by
    intro w2 u0 u1 u2 u3 hk hf hr
    have t := four w2 u0 u1 u2 u3
    refine ⟨hk.tch t hqne (fun k e hr' => ?_) (fun k e => by subst e; have := hbel.size; omega), ?_⟩
    · subst e
      obtain ⟨cur, z, hc⟩ := hr'
      rw [hr] at hc
      injection hc with hc
      injection hc with _ h2 _
      exact absurd h2 (by decide)
    · have hb1 : Below w.heap.size w (w.alloc (.cells #[.int .i64 0, .int .i64 0, .slice none 0 0, .string ⟨#[]⟩] 34)) := (Below.refl _ w).alloc (Nat.le_refl _) _
      have f := (Fr.of_below (E := (· = q)) hb1).trans hf
      exact Tch.out f t (fun j hj => .inr (by rw [hj]; exact Nat.le_refl _))
  by_cases ht : t = []
  · subst ht
    simp only [List.length_nil, Nat.zero_add] at P1 hrun
    have m2 := m2 1
    clear P2 k2
    go_enter Try.func23, Try.ntmps23
    go_wp2_with (go_at_call 28; refine (P1 _).mono ?_; rintro e w1 ⟨rfl, m, h1, p1, f1⟩; obtain ⟨⟨v1, hp1⟩, hf1⟩ := id h1; obtain ⟨y0, y1, y2, y3⟩ := hx _ hp1.bel; have y0a := fun o => cell_alloc y0 o; have y1a := fun o => cell_alloc y1 o; have y2a := fun o => cell_alloc y2 o; have y3a := fun o => cell_alloc y3 o; have R0 : w1.heap[w.heap.size]? = some (.cells #[.int .i64 0, .int .i64 0, .slice none 0 0, .string ⟨#[]⟩] 34 (0, 0)) := f1.row (heap_alloc_new w _) (fun e => by omega) (by decide); have q0 := fun o o2 => held_cell (i := 0) (row_alloc (row_alloc R0 o) o2) rfl; have z0 := fun o o2 => held_frozen (i := 0) (row_alloc (row_alloc R0 o) o2); have q1 := fun o o2 => held_cell (i := 1) (row_alloc (row_alloc R0 o) o2) rfl; have z1 := fun o o2 => held_frozen (i := 1) (row_alloc (row_alloc R0 o) o2); have q2 := fun o o2 => held_cell (i := 2) (row_alloc (row_alloc R0 o) o2) rfl; have z2 := fun o o2 => held_frozen (i := 2) (row_alloc (row_alloc R0 o) o2); have q3 := fun o o2 => held_cell (i := 3) (row_alloc (row_alloc R0 o) o2) rfl; have z3 := fun o o2 => held_frozen (i := 3) (row_alloc (row_alloc R0 o) o2))
    have hb2 : ∀ o o2, Below w1.heap.size w1 ((w1.alloc o).alloc o2) := fun o o2 => ((Below.refl _ w1).alloc (Nat.le_refl _) o).alloc (by simp) o2
    have fin := fun o o2 u0 u1 u2 u3 => last ((w1.alloc o).alloc o2) u0 u1 u2 u3 ((k1 (by simp) _ m h1 p1).below (hb2 o o2)) (f1.trans (Fr.of_below (hb2 o o2))) (row_alloc (row_alloc R0 o) o2)
    exact bodyPost_ret (v := .agg #[.int .i64 x.1.seq, .int .i64 x.1.time, .slice x.2.1 x.1.labs.length x.2.2, .string ⟨x.1.line.toArray⟩]) (by simp [results, Try.results23, go_sem, *]) rfl ⟨rfl, (fin _ _ _ _ _ _).1, (fin _ _ _ _ _ _).2⟩
  · have hn : 0 < t.length := List.length_pos_iff.2 ht
    have hnI : (0 : Int) < (t.length : Int) := by omega
    have k2' := k2 ⟨A', c - 1, t, p⟩ rfl rfl
    clear k2 k1
    have m2 := m2 (t.length + 1)
    have hb2 : ∀ (w1 : World) o o2, Below w1.heap.size w1 ((w1.alloc o).alloc o2) := fun w1 o o2 => ((Below.refl _ w1).alloc (Nat.le_refl _) o).alloc (by simp) o2
    have hl1 := hid hlen
    have fine : ∀ (w1 w3 : World) (o o2 : Obj) (m m3 : List HR), Fr (· = q) (w.alloc (.cells #[.int .i64 0, .int .i64 0, .slice none 0 0, .string ⟨#[]⟩] 34)) w1 → Fr (· = q) ((w1.alloc o).alloc o2) w3 → Hq W0 w3 q rs nb m3 → m3.Perm (⟨A', c - 1, t, p⟩ :: m) → m.Perm l → w3.heap[w.heap.size]? = some (.cells #[.int .i64 0, .int .i64 0, .slice none 0 0, .string ⟨#[]⟩] 34 (0, 0)) →
        ∀ u0 u1 u2 u3, TkS W0 ((((w3.setCell ⟨w.heap.size, 0, none⟩ u0).setCell ⟨w.heap.size, 1, none⟩ u1).setCell ⟨w.heap.size, 2, none⟩ u2).setCell ⟨w.heap.size, 3, none⟩ u3) q rs nb S ∧ Fr (· = q) w ((((w3.setCell ⟨w.heap.size, 0, none⟩ u0).setCell ⟨w.heap.size, 1, none⟩ u1).setCell ⟨w.heap.size, 2, none⟩ u2).setCell ⟨w.heap.size, 3, none⟩ u3) :=
      fun w1 w3 o o2 m m3 f1 f3 h3 p3 p1 r3 u0 u1 u2 u3 => last w3 u0 u1 u2 u3 (k2' w3 m3 h3 (p3.trans (p1.cons _))) (f1.trans ((Fr.of_below (hb2 w1 o o2)).trans f3)) r3
    generalize t.length = n at *
    clear last four
    go_enter Try.func23, Try.ntmps23
    go_wp2_with (first
      | (go_at_call 28; refine (P1 _).mono ?_; rintro e w1 ⟨rfl, m, h1, p1, f1⟩; obtain ⟨⟨v1, hp1⟩, hf1⟩ := id h1; obtain ⟨y0, y1, y2, y3⟩ := hx _ hp1.bel; have y0a := fun o => cell_alloc y0 o; have y1a := fun o => cell_alloc y1 o; have y2a := fun o => cell_alloc y2 o; have y3a := fun o => cell_alloc y3 o; have R0 : w1.heap[w.heap.size]? = some (.cells #[.int .i64 0, .int .i64 0, .slice none 0 0, .string ⟨#[]⟩] 34 (0, 0)) := f1.row (heap_alloc_new w _) (fun e => by omega) (by decide); have q0 := fun o o2 => held_cell (i := 0) (row_alloc (row_alloc R0 o) o2) rfl; have z0 := fun o o2 => held_frozen (i := 0) (row_alloc (row_alloc R0 o) o2); have q1 := fun o o2 => held_cell (i := 1) (row_alloc (row_alloc R0 o) o2) rfl; have z1 := fun o o2 => held_frozen (i := 1) (row_alloc (row_alloc R0 o) o2); have q2 := fun o o2 => held_cell (i := 2) (row_alloc (row_alloc R0 o) o2) rfl; have z2 := fun o o2 => held_frozen (i := 2) (row_alloc (row_alloc R0 o) o2); have q3 := fun o o2 => held_cell (i := 3) (row_alloc (row_alloc R0 o) o2) rfl; have z3 := fun o o2 => held_frozen (i := 3) (row_alloc (row_alloc R0 o) o2))
      | (go_at_call 29; go_loud (refine (P2 _ m (h1.below (hb2 _ _ _)) ht (by rw [p1.length_eq]; exact hl1.out)).mono ?_; rintro e w3 ⟨rfl, m3, hq3, p3, f3⟩; have R3 := f3.row (row_alloc (row_alloc R0 _) _) (fun e => hqne e.symm) (by decide); have X3 := f3.row (heap_alloc_new _ _) (fun e => by have := f1.size; simp at e this; omega) (by decide); rw [World.size_alloc] at X3; have g0 := held_cell (i := 0) R3 rfl; have gf0 := held_frozen (i := 0) R3; have h0 := held_cell (i := 0) X3 rfl; have g1 := held_cell (i := 1) R3 rfl; have gf1 := held_frozen (i := 1) R3; have h1 := held_cell (i := 1) X3 rfl; have g2 := held_cell (i := 2) R3 rfl; have gf2 := held_frozen (i := 2) R3; have h2 := held_cell (i := 2) X3 rfl; have g3 := held_cell (i := 3) R3 rfl; have gf3 := held_frozen (i := 3) R3; have h3 := held_cell (i := 3) X3 rfl; have FN := fine _ _ _ _ _ _ f1 f3 hq3 p3 p1 R3; clear R3 X3 fine)))
    exact bodyPost_ret (v := .agg #[.int .i64 x.1.seq, .int .i64 x.1.time, .slice x.2.1 x.1.labs.length x.2.2, .string ⟨x.1.line.toArray⟩]) (by simp [results, Try.results23, go_sem, *]) rfl ⟨rfl, (FN _ _ _ _).1, (FN _ _ _ _).2⟩
end Go.Proofs.Ytcffagfkpkfgbaa
