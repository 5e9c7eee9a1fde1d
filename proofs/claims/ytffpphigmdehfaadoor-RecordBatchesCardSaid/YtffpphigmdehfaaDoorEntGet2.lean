/-
  What record.Get answers, of any bytes: what getE and getN say. Conditions: the slice reads as the bytes.
-/
import Derived.Test.YtffpphigmdehfaaDoorEntGet1
namespace Go.Icz
open Go.RowKit
/-- What Get answers: the entry, the error. -/
def getE (l : List Nat) : Ent := if entOk l = true then entOf l else ⟨0, 0, [], []⟩
def getN (l : List Nat) : Nat := if entOk l = true then 0 else 21
theorem getE_no {l : List Nat} (h : entOk l = false) : getE l = ⟨0, 0, [], []⟩ := by unfold getE; rw [h]; rfl
theorem getN_no {l : List Nat} (h : entOk l = false) : getN l = 21 := by unfold getN; rw [h]; rfl
theorem getE_yes {l : List Nat} (h : entOk l = true) : getE l = entOf l := by unfold getE; rw [h]; rfl
theorem getN_yes {l : List Nat} (h : entOk l = true) : getN l = 0 := by unfold getN; rw [h]; rfl
end Go.Icz
namespace Go.Proofs.YtffpphigmdehfaaDoor
open Go.RowKit Go.Icz
def GetOut (l : List Nat) (w : World) (e : Ending) (w' : World) : Prop :=
  ∃ A c, e = .returned (.tuple #[entV (getE l) A c, .int .i64 (getN l : Int)]) ∧ OwnL w' w.heap.size (.slice A (getE l).labs.length c) (getE l).labs ∧ Below w.heap.size w w'
theorem bad_er {l : List Nat} {er : Nat} {y : Ent} (h : (entOk l = true ∧ er = 0 ∧ y = entOf l) ∨ (entOk l = false ∧ er ≠ 0)) (hf : entOk l = false) : ((er : Int) == 0) = false := by
  rcases h with h | h
  · rw [hf] at h; cases h.1
  · have := h.2
    simp
    omega
theorem good_er {l : List Nat} {er : Nat} {y : Ent} (h : (entOk l = true ∧ er = 0 ∧ y = entOf l) ∨ (entOk l = false ∧ er ≠ 0)) (hf : entOk l = true) : er = 0 ∧ Hid (y = entOf l) := by
  rcases h with h | h
  · exact ⟨h.2.1, hid h.2.2⟩
  · rw [hf] at h; cases h.1
set_option maxHeartbeats 1000000 in
set_option maxRecDepth 100000 in
theorem Etried_is (pb : Nat) (v : Value) (l : List Nat) (w : World) (hp : w.cell? ⟨pb, 0, none⟩ = some v) (hv : Rd w v l) (hl : ∀ c ∈ l, c < 256) (hlen : l.length ≤ 140737488351232) (hT : Tabs w) :
    Calls Tryd.prog 63 #[.func (.func 64) #[] #[.pointer (some ⟨pb, 0, none⟩)]] w (GetOut l w) := by
  have hG := fun o => EGet1_is pb v l (w.alloc o) ((World.cell?_alloc_lt w o ⟨pb, 0, none⟩ (World.block_lt_of_cell? w _ hp)).trans hp) (hv.alloc o) hl hlen (hT.below ((Below.refl _ _).alloc (Nat.le_refl _) _))
  clear hp hv hl hlen hT
  unfold G1Out entV at hG
  cases hok : entOk l with
  | false =>
    have HY := hid hok
    clear hok
    go_enter Tryd.func63, Tryd.ntmps63
    go_wp2_with (go_at_call 64; refine (hG _).mono ?_; rintro e w1 ⟨y, A, c, er, rfl, r1, hor, b1⟩; have hne := bad_er hor HY.out; have hne2 : ((er : Int) != 0) = true := (by rw [bne, hne]; rfl); have k1 := box4 b1; have p0 := held_cell (i := 0) k1 rfl; have p1 := held_cell (i := 1) k1 rfl; have p2 := held_cell (i := 2) k1 rfl; have p3 := held_cell (i := 3) k1 rfl; have f0 := held_frozen (i := 0) k1; have f1 := held_frozen (i := 1) k1; have f2 := held_frozen (i := 2) k1; have f3 := held_frozen (i := 3) k1; have lt1 := (Array.getElem?_eq_some_iff.1 k1).1; clear hG hor)
    have bf0 := put4_below (below_push b1) (Nat.le_refl w.heap.size) (.int .i64 0) (.int .i64 0) (.slice none 0 0) (.string ⟨#[]⟩)
    have kf0 := put4_row k1 (.int .i64 0) (.int .i64 0) (.slice none 0 0) (.string ⟨#[]⟩)
    have bf1 := bf0.alloc bf0.size (.cells #[.int .i64 y.seq, .int .i64 y.time, .slice A y.labs.length c, .string ⟨y.line.toArray⟩] 24)
    have kf1 := keep4 kf0 ((Below.refl _ _).alloc (Nat.le_refl _) (.cells #[.int .i64 y.seq, .int .i64 y.time, .slice A y.labs.length c, .string ⟨y.line.toArray⟩] 24))
    have bf2 := bf1.alloc bf1.size (.cells #[.int .i64 0, .int .i64 0, .slice none 0 0, .string ⟨#[]⟩] 24)
    have kf2 := keep4 kf1 ((Below.refl _ _).alloc (Nat.le_refl _) (.cells #[.int .i64 0, .int .i64 0, .slice none 0 0, .string ⟨#[]⟩] 24))
    have r0 := held_cell (i := 0) kf2 rfl
    have r1' := held_cell (i := 1) kf2 rfl
    have r2 := held_cell (i := 2) kf2 rfl
    have r3 := held_cell (i := 3) kf2 rfl
    exact bodyPost_ret (v := .tuple #[entV ⟨0, 0, [], []⟩ none 0, .int .i64 21]) (by simp [results, Tryd.results63, go_sem, entV, r0, r1', r2, r3]) rfl ⟨none, 0, by rw [getE_no HY.out, getN_no HY.out]; rfl, by rw [getE_no HY.out]; exact OwnL.nil _ _, bf2⟩
  | true =>
    have HY := hid hok
    clear hok
    go_enter Tryd.func63, Tryd.ntmps63
    go_wp2_with (go_at_call 64; refine (hG _).mono ?_; rintro e w1 ⟨y, A, c, er, rfl, r1, hor, b1⟩; obtain ⟨her, hy⟩ := good_er hor HY.out; subst her; have k1 := box4 b1; have p0 := held_cell (i := 0) k1 rfl; have p1 := held_cell (i := 1) k1 rfl; have p2 := held_cell (i := 2) k1 rfl; have p3 := held_cell (i := 3) k1 rfl; have f0 := held_frozen (i := 0) k1; have f1 := held_frozen (i := 1) k1; have f2 := held_frozen (i := 2) k1; have f3 := held_frozen (i := 3) k1; have lt1 := (Array.getElem?_eq_some_iff.1 k1).1; clear hG hor)
    have bf0 := put4_below (below_push b1) (Nat.le_refl w.heap.size) (.int .i64 y.seq) (.int .i64 y.time) (.slice A y.labs.length c) (.string ⟨y.line.toArray⟩)
    have kf0 := put4_row k1 (.int .i64 y.seq) (.int .i64 y.time) (.slice A y.labs.length c) (.string ⟨y.line.toArray⟩)
    have bf1 := bf0.alloc bf0.size (.cells #[.int .i64 y.seq, .int .i64 y.time, .slice A y.labs.length c, .string ⟨y.line.toArray⟩] 24)
    have kf1 := keep4 kf0 ((Below.refl _ _).alloc (Nat.le_refl _) (.cells #[.int .i64 y.seq, .int .i64 y.time, .slice A y.labs.length c, .string ⟨y.line.toArray⟩] 24))
    have r0 := held_cell (i := 0) kf1 rfl
    have r1' := held_cell (i := 1) kf1 rfl
    have r2 := held_cell (i := 2) kf1 rfl
    have r3 := held_cell (i := 3) kf1 rfl
    exact bodyPost_ret (v := .tuple #[entV y A c, .int .i64 0]) (by simp [results, Tryd.results63, go_sem, entV, r0, r1', r2, r3]) rfl ⟨A, c, by rw [getE_yes HY.out, getN_yes HY.out, ← hy.out]; rfl, by rw [getE_yes HY.out, ← hy.out]; exact ((OwnL.put4 r1 (by simp) _ _ _ _).mono (by simp)).alloc _, bf1⟩
set_option maxHeartbeats 1000000 in
set_option maxRecDepth 100000 in
theorem EGet_is (v : Value) (l : List Nat) (w : World) (hv : Rd w v l) (hl : ∀ c ∈ l, c < 256) (hlen : l.length ≤ 140737488351232) (hT : Tabs w) :
    Calls Tryd.prog 18 #[v] w (GetOut l w) := by
  have hbb : ∀ o1 o2, Below w.heap.size w ((w.alloc o1).alloc o2) := fun o1 o2 => ((Below.refl _ _).alloc (Nat.le_refl _) o1).alloc (by simp) o2
  have hmf : ∀ (fn : Fn) (first cap : Array Value) (w : World), (Instr.makeFunc fn first cap).run Tryd.prog w = .ok (.func fn first cap) w := fun _ _ _ _ => rfl
  have hG := fun w1 (hp : w1.cell? ⟨w.heap.size, 0, none⟩ = some v) (hb : Below w.heap.size w w1) => Etried_is w.heap.size v l w1 hp (hv.below hb) hl hlen (hT.below hb)
  unfold GetOut entV at hG
  clear hl hlen hT
  obtain ⟨A0, c0, rfl, -, -⟩ := hv
  have hnew := fun o2 => (World.cell?_alloc_lt (w.alloc (.cells #[.slice A0 l.length c0] 25)) o2 ⟨w.heap.size, 0, none⟩ (by simp)).trans (held_cell (i := 0) (heap_alloc_new w (.cells #[.slice A0 l.length c0] 25)) rfl)
  generalize hE : getE l = y at *
  generalize hN : getN l = n at *
  have HE := hid hE
  have HN := hid hN
  clear hE hN
  go_enter Tryd.func18, Tryd.ntmps18
  go_wp2_with (go_at_call 63; go_loud (refine (hG _ (hnew _) (hbb _ _)).mono ?_; rintro e w1 ⟨A, c, rfl, r1, b1⟩; have k1 := (two_new b1).2; have p0 := held_cell (i := 0) k1 rfl; have p1 := held_cell (i := 1) k1 rfl; have p2 := held_cell (i := 2) k1 rfl; have p3 := held_cell (i := 3) k1 rfl; have f0 := held_frozen (i := 0) k1; have f1 := held_frozen (i := 1) k1; have f2 := held_frozen (i := 2) k1; have f3 := held_frozen (i := 3) k1; have bw1 := (hbb _ _).trans (b1.mono (by simp; omega)); clear hG))
  have bf := put4_below bw1 (Nat.le_succ w.heap.size) (.int .i64 y.seq) (.int .i64 y.time) (.slice A y.labs.length c) (.string ⟨y.line.toArray⟩)
  have kf := put4_row k1 (.int .i64 y.seq) (.int .i64 y.time) (.slice A y.labs.length c) (.string ⟨y.line.toArray⟩)
  have r0 := held_cell (i := 0) kf rfl
  have r1' := held_cell (i := 1) kf rfl
  have r2 := held_cell (i := 2) kf rfl
  have r3 := held_cell (i := 3) kf rfl
  exact bodyPost_ret (v := .tuple #[entV y A c, .int .i64 (n : Int)]) (by simp [results, Tryd.results18, go_sem, entV, r0, r1', r2, r3]) rfl ⟨A, c, by rw [HE.out, HN.out], by rw [HE.out]; exact (OwnL.put4 r1 (by simp) _ _ _ _).mono (by simp; omega), bf⟩
end Go.Proofs.YtffpphigmdehfaaDoor
