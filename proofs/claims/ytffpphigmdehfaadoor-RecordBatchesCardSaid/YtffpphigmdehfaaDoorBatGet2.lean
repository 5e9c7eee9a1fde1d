/-
  What record.GetBatch answers, of any bytes: what batE and batN say. Conditions: the slice reads as the bytes.
-/
import Derived.Test.YtffpphigmdehfaaDoorBatGet
namespace Go.Icz
open Go.RowKit
theorem bat_no {l : List Nat} (h : batG l = none) : batE l = [] ∧ batN l = 21 := by unfold batE batN; rw [h]; exact ⟨rfl, rfl⟩
theorem bat_yes {l : List Nat} {es : List Ent} (h : batG l = some es) : batE l = es ∧ batN l = 0 := by unfold batE batN; rw [h]; exact ⟨rfl, rfl⟩
end Go.Icz
namespace Go.Proofs.YtffpphigmdehfaaDoor
open Go.RowKit Go.Icz
def BatGOut (l : List Nat) (w : World) (e : Ending) (w' : World) : Prop :=
  ∃ (m : List (Ent × Value)) (v : Value), e = .returned (.tuple #[v, .int .i64 (batN l : Int)]) ∧ OwnE w' w.heap.size v m ∧ Hid (m.map (·.1) = batE l) ∧ Below w.heap.size w w'
theorem bad_erB {l : List Nat} {er : Nat} {es : List Ent} (h : (batG l = some es ∧ er = 0) ∨ (batG l = none ∧ er ≠ 0)) (hf : batG l = none) : ((er : Int) == 0) = false := by
  rcases h with h | h
  · rw [hf] at h; cases h.1
  · have := h.2
    simp
    omega
theorem good_erB {l : List Nat} {er : Nat} {es fs : List Ent} (h : (batG l = some es ∧ er = 0) ∨ (batG l = none ∧ er ≠ 0)) (hf : batG l = some fs) : er = 0 ∧ Hid (es = fs) := by
  rcases h with h | h
  · rw [hf] at h; injection h.1 with h1; exact ⟨h.2, hid h1.symm⟩
  · rw [hf] at h; cases h.1
set_option maxHeartbeats 1000000 in
set_option maxRecDepth 100000 in
theorem EtriedB_is (pb : Nat) (v : Value) (l : List Nat) (w : World) (hp : w.cell? ⟨pb, 0, none⟩ = some v) (hv : Rd w v l) (hl : ∀ c ∈ l, c < 256) (hlen : l.length ≤ 140737488351232) (hT : Tabs w) :
    Calls Tryd.prog 82 #[.func (.func 83) #[] #[.pointer (some ⟨pb, 0, none⟩)]] w (BatGOut l w) := by
  have hG := EGetB1_is pb v l w hp hv hl hlen hT
  clear hp hv hl hlen hT
  unfold B1Out at hG
  cases hok : batG l with
  | none =>
    have HY := hid hok
    obtain ⟨hE, hN⟩ := bat_no hok
    have HE := hid hE
    have HN := hid hN
    clear hok hE hN
    go_enter Tryd.func82, Tryd.ntmps82
    go_wp2_with (go_at_call 83; go_loud (refine hG.mono ?_; rintro e w1 ⟨m, u, er, rfl, o1, hor, b1⟩; have hne := bad_erB hor HY.out; have hne2 : ((er : Int) != 0) = true := (by rw [bne, hne]; rfl); clear hG hor))
    go_ret2
    exact ⟨[], _, by rw [HN.out]; rfl, OwnE.nil _ _, hid (by rw [HE.out]; rfl), b1⟩
  | some es =>
    have HY := hid hok
    obtain ⟨hE, hN⟩ := bat_yes hok
    have HE := hid hE
    have HN := hid hN
    clear hok hE hN
    go_enter Tryd.func82, Tryd.ntmps82
    go_wp2_with (go_at_call 83; go_loud (refine hG.mono ?_; rintro e w1 ⟨m, u, er, rfl, o1, hor, b1⟩; obtain ⟨her, hes⟩ := good_erB hor HY.out; subst her; clear hG hor))
    go_ret2
    exact ⟨m, _, by rw [HN.out]; rfl, o1, hid (by rw [HE.out]; exact hes.out), b1⟩
set_option maxHeartbeats 1000000 in
set_option maxRecDepth 100000 in
theorem EGetBatch_is (v : Value) (l : List Nat) (w : World) (hv : Rd w v l) (hl : ∀ c ∈ l, c < 256) (hlen : l.length ≤ 140737488351232) (hT : Tabs w) :
    Calls Tryd.prog 31 #[v] w (BatGOut l w) := by
  have hbb : ∀ o1, Below w.heap.size w (w.alloc o1) := fun o1 => (Below.refl _ _).alloc (Nat.le_refl _) o1
  have hmf : ∀ (fn : Fn) (first cap : Array Value) (w : World), (Instr.makeFunc fn first cap).run Tryd.prog w = .ok (.func fn first cap) w := fun _ _ _ _ => rfl
  have hG := fun w1 (hp : w1.cell? ⟨w.heap.size, 0, none⟩ = some v) (hb : Below w.heap.size w w1) => EtriedB_is w.heap.size v l w1 hp (hv.below hb) hl hlen (hT.below hb)
  unfold BatGOut at hG
  clear hl hlen hT
  obtain ⟨A0, c0, rfl, -, -⟩ := hv
  have hnew := held_cell (i := 0) (heap_alloc_new w (.cells #[.slice A0 l.length c0] 25)) rfl
  unfold BatGOut
  generalize batE l = y at *
  generalize batN l = n at *
  go_enter Tryd.func31, Tryd.ntmps31
  go_wp2_with (go_at_call 82; go_loud (refine (hG _ hnew (hbb _)).mono ?_; rintro e w1 ⟨m, u, rfl, o1, hm, b1⟩; clear hG))
  go_ret2
  exact ⟨m, _, rfl, o1.mono (by simp), hm, below_push b1⟩
end Go.Proofs.YtffpphigmdehfaaDoor
