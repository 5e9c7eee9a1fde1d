/-
  An Iter whose base is moved; two Iters beside each other. Conditions: those that each theorem names.
-/
import Derived.Test.YtbebhcdnnfgchaaMnw
namespace Go.Icz
open Go.RowKit
section
variable {α β : Type} (ky : α → Int × Int) (ky' : β → Int × Int) (g : α → β) (hg : ∀ x, ky' (g x) = ky x)
include hg
theorem nx_map : ∀ (met : List Int) (S : List α), nx ky' met (S.map g) = ((nx ky met S).1.map (fun p => (g p.1, p.2.map g)), (nx ky met S).2)
  | _, [] => rfl
  | met, x :: S => by
    have h1 := nx_map met S
    simp only [List.map_cons, nx, hg]
    by_cases hm : (ky x).2 ∈ met
    · rw [if_pos hm, if_pos hm, h1]
    · rw [if_neg hm, if_neg hm]
      rfl
end
/-- The first blocks of a world. -/
def cutW (w : World) (n : Nat) : World := { w with heap := w.heap.extract 0 n }
theorem cutW_size {w : World} {n : Nat} (h : n ≤ w.heap.size) : (cutW w n).heap.size = n := by
  unfold cutW
  simp
  omega
theorem cutW_below {w : World} {n : Nat} (h : n ≤ w.heap.size) : Below n (cutW w n) w := by
  refine ⟨rfl, rfl, rfl, by rw [cutW_size h]; exact h, fun k hk => ?_⟩
  unfold cutW
  simp only
  rw [Array.getElem?_extract]
  rw [if_pos (by omega), Nat.zero_add]
end Go.Icz
namespace Go.Proofs.Ytbebhcdnnfgchaa
open Go.RowKit Go.Icz Go.Maps
theorem OwE.tch {S : Nat → Prop} {w w' : World} {B : Nat} {v : Value} {l : List EV} (h : OwE w B v l) (t : Tch S w w') (hS : ∀ k, S k → k < B) : OwE w' B v l :=
  ⟨h.1.touch t (fun k hk e => by have := (h.1.lt k e).1; have := hS k hk; omega), fun x hx => (h.2 x hx).touch t (fun k hk e => by have := ((h.2 x hx).lt k e).1; have := hS k hk; omega)⟩
theorem NIt.shift {S : Nat → Prop} {W0 w w' : World} {q m B : Nat} {nb : Bool} {R : List SR} (h : NIt W0 w q m nb R) (hR : ∀ r ∈ R, OwE W0 B (.slice r.A r.l.length r.c) r.l) (hwf : WfR (bare R)) (hz : SzR R) (t : Tch S w w') (hS : ∀ k, S k → k < B) (hB : B ≤ W0.heap.size) :
    ∃ W1, W1.heap.size = W0.heap.size ∧ It W1 w' q m nb (strm kyV nb (rowsOf R)) [] 0 := by
  obtain ⟨vv, l, h1, h2, h3, h4, h5, h6⟩ := h.ex
  have hn : W0.heap.size ≤ w'.heap.size := Nat.le_trans h.bel.size t.size
  have hc := cutW_size hn
  have hb := cutW_below hn
  have hlo := h.lo
  have t1 : Tch (· < B) W0 (cutW w' W0.heap.size) := by
    refine ⟨t.os.trans h.bel.os, t.tape.trans h.bel.tape, t.output.trans h.bel.output, by rw [hc]; exact Nat.le_refl _, fun k hk hnk => ?_⟩
    rw [← hb.block k hk, ← h.bel.block k hk]
    exact t.block k (Nat.lt_of_lt_of_le hk h.bel.size) (fun hs => hnk (hS k hs))
  have hR1 : ∀ r ∈ R, OwE (cutW w' W0.heap.size) B (.slice r.A r.l.length r.c) r.l := fun r hr => OwE.tch (hR r hr) t1 (fun _ h => h)
  have hSl := strm_length kyV nb _ (rowsOf R) rfl
  have htot : totR (rowsOf R) ≤ 1099511627776 := hz.2
  refine ⟨cutW w' W0.heap.size, hc, ⟨⟨l, rowsOf R, ⟨⟨vv, ⟨⟨_, t.row h1 (fun hs => by have := hS q hs; omega), by decide⟩, ?_, by rw [hc]; exact hlo.1, by rw [hc]; exact hb, fun r hr => ⟨(h5 r hr).1, (hR1 _ (h5 r hr).2).1.rd⟩, h6⟩⟩, h3⟩, h4, ?_, rfl⟩, h.mp.touch t (fun hs => by have := hS m hs; omega), by rw [hc]; exact hlo.2, ?_⟩⟩
  · rw [hc]
    exact h2.touch t (fun k hk e => by have := (h2.lt k e).1; have := hS k hk; omega)
  · intro s hs x hx
    obtain ⟨r, hr, rfl⟩ := List.mem_map.1 hs
    refine ⟨((hR1 r hr).2 x hx).rd, ?_⟩
    exact hwf (r.l.map (·.1)) (List.mem_map.2 ⟨r, hr, rfl⟩) x.1 (List.mem_map.2 ⟨x, hx, rfl⟩)
  · rw [hSl]
    simp
    omega
theorem RIt.rebase {S : Nat → Prop} {W W0 w w' : World} {q m : Nat} {vr : Value} {nb : Bool} {L : List SR} {met : List Int} {sk : Nat} (h : RIt W0 w q m vr nb L met sk) (t : Tch S w w') (hS : ∀ k, S k → ¬ RE q m vr k) (hb : Below W.heap.size W w') (hle : W.heap.size ≤ W0.heap.size) (hrd : ∀ r ∈ L, KEnt.Rd W (.slice r.A r.l.length r.c) r.l ∧ ∀ x ∈ r.l, GoodE W x) : RIt W w' q m vr nb L met sk :=
  ⟨t.row h.at_ (fun e => hS q e (.inl rfl)), (h.own.touch t (fun k e e2 => hS k e (.inr (.inr e2)))).mono hle, hrd, h.mp.touch t (fun e => hS m e (.inr (.inl rfl))), hb, ⟨Nat.le_trans hle h.lo.1, Nat.le_trans hle h.lo.2⟩, h.bd⟩
theorem RIt.noRow {W0 w : World} {q m : Nat} {vr : Value} {nb : Bool} {L : List SR} {met : List Int} {sk : Nat} (h : RIt W0 w q m vr nb L met sk) : ∀ k, RE q m vr k → ¬ isRow w k := by
  rintro k hk ⟨cur, z, hc⟩
  rcases hk with rfl | rfl | hk
  · rw [h.at_] at hc
    injection hc with hc
    injection hc with _ h2 _
    exact absurd h2 (by decide)
  · exact h.mp.noRow _ _ _ hc
  · obtain ⟨cur', hc'⟩ := (h.mq.2 k hk).2.2.2.2
    rw [hc'] at hc
    injection hc with hc
    injection hc with _ h2 _
    exact absurd h2 (by decide)
/-- The program's Next leaves the reference's Iter alone. -/
theorem RIt.fr {W w w' : World} {q m q1 m1 : Nat} {vr : Value} {nb : Bool} {L : List SR} {met : List Int} {sk : Nat} (h : RIt W w q m vr nb L met sk) (f : Fr (ItE q1 m1) w w') (hq : ¬ RE q m vr q1) (hm : ¬ RE q m vr m1) (hb : Below W.heap.size W w') : RIt W w' q m vr nb L met sk :=
  h.rebase f (fun k hk hr => by
    rcases hk with (rfl | rfl) | hk
    · exact hq hr
    · exact hm hr
    · exact h.noRow k hr hk) hb (Nat.le_refl _) h.rd
/-- The reference's Next leaves the program's Iter alone. -/
theorem It.tchR {W W1 w w' : World} {q m q1 m1 : Nat} {vr : Value} {nb : Bool} {S : List EV} {L : List SR} {met met1 : List Int} {sk sk1 : Nat} (h : It W1 w q1 m1 nb S met1 sk1) (r : RIt W w q m vr nb L met sk) (t : Tch (RE q m vr) w w') (hq : ¬ RE q m vr q1) (hm : ¬ RE q m vr m1) (hlo : ∀ k, RE q m vr k → W1.heap.size ≤ k) : It W1 w' q1 m1 nb S met1 sk1 :=
  h.touch t hq hm r.noRow hlo
end Go.Proofs.Ytbebhcdnnfgchaa
