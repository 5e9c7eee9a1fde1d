/-
  What the law's own helpers Lent and Stays answer. Conditions: the slices read as bytes, of at most 2^47 - 4096.
-/
import Derived.Test.YtddbmibpnahmnaaWrite
import Derived.Deep.QuietTactic
import Derived.BigQuiet
namespace Go.Proofs.Ytddbmibpnahmnaa
open Go.RowKit Go.Icz
set_option maxRecDepth 100000 in
theorem Lent_any (v : Value) (l : List Nat) (w : World) (hv : Rd w v l) (hlen : l.length ≤ 140737488351232) :
    Calls Try.prog 4 #[v] w fun e w' => ∃ u, e = .returned u ∧ Lt w' w.heap.size u l ∧ Below w.heap.size w w' := by
  have hv0 := hv
  obtain ⟨A, c, rfl, _, _⟩ := hv
  have HV := hid hv0
  clear hv0
  go_enter Try.func4, Try.ntmps4
  go_wp2_with (first
    | (at_builtin; refine wp_appR std rfl (.tmp 4) (.tmp 5) rfl w.heap.size _ _ [] l rfl (Own.made w (Nat.le_refl _)) rfl (HV.out.below ((Below.refl _ _).alloc (Nat.le_refl _) _)) (by simp; omega) (by simp) ?_; intro v1 w1 o1 b1; simp only [List.nil_append] at o1; have hs1 : w.heap.size ≤ w1.heap.size := Nat.le_trans (by simp) b1.size)
    | (at_builtin; refine wp_appR std rfl (.tmp 7) (.tmp 8) rfl w.heap.size _ _ l [77, 78] rfl (o1.alloc _) rfl (Rd.two _ 77 78) ?_ ?_ ?_; (focus (simp; omega)); (focus (simp; omega)); intro v2 w2 o2 b2; clear o1; obtain ⟨g, cap, rfl, hg, hg2, hcap, hcell⟩ := o2.form (by simp); have hlc : (l ++ [77, 78]).length = l.length + 2 := by simp))
  go_ret
  refine ⟨_, rfl, ⟨g, cap, rfl, hg, hg2, by omega, hcell⟩, ?_⟩
  exact (((Below.refl _ _).alloc (Nat.le_refl _) _).trans b1).trans (((Below.refl _ _).alloc hs1 _).trans b2)

set_option maxRecDepth 100000 in
set_option maxHeartbeats 400000 in
theorem Stays_any (B : Nat) (x u : Value) (l : List Nat) (w : World) (hx : Lt w B x l) (hu : Rd w u l) (hlen : l.length ≤ 140737488351232) :
    Calls Try.prog 12 #[x, u] w fun e w' => e = .returned (.bool true) ∧ Below w.heap.size w w' := by
  have r1 := hx.rd
  obtain ⟨g, cap, rfl, hg, hlt, hcap, hcell⟩ := hx
  have c2 := fun n => conv_rd std (show Rd (w.drewN n) u l from hu)
  obtain ⟨A, c, rfl, hc, _⟩ := hu
  have c1 := fun n => conv_rd std (show Rd (w.drewN n) _ l from r1)
  have k1 := hcell l.length (by simp)
  have k2 := hcell (l.length + 1) (by simp)
  simp only [List.getElem_append_right (Nat.le_refl _), List.getElem_append_right (Nat.le_succ _), Nat.sub_self, List.getElem_cons_zero] at k1 k2
  have h0 : l.length ≤ cap := by omega
  clear hcell r1
  go_enter Try.func12, Try.ntmps12
  go_wp2_with fail
  go_quiet (fail)
  go_wp2
  go_ret
  exact ⟨rfl, rfl, rfl, rfl, Nat.le_refl _, fun _ _ => rfl⟩
end Go.Proofs.Ytddbmibpnahmnaa
