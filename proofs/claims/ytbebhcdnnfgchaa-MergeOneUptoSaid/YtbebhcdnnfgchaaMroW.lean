/-
  The laws MergeRows and MergeLimits, walked. Conditions: the arguments can be read; sizes as each theorem names.
-/
import Derived.Test.YtbebhcdnnfgchaaMgv
import Derived.Test.YtbebhcdnnfgchaaMgw
namespace Go.Icz
open Go.RowKit
theorem LT.below {B : Nat} {w w' : World} (h : LT B w w') (hB : B ≤ w.heap.size) : Below B w w' := Tch.to_below h.tch (fun _ hj => hj.1) hB
theorem SzE.of_map {l m : List EV} (h : SzE l) (hm : m.map (·.1) = l.map (·.1)) : SzE m := by
  have hl : m.length = l.length := by have := congrArg List.length hm; simpa using this
  refine ⟨by rw [hl]; exact h.1, fun x hx => ?_⟩
  have : x.1 ∈ l.map (·.1) := by rw [← hm]; exact List.mem_map.2 ⟨x, hx, rfl⟩
  obtain ⟨y, hy, e⟩ := List.mem_map.1 this
  rw [← e]
  exact h.2 y hy
theorem SzE.rev {l : List EV} (h : SzE l) : SzE l.reverse := ⟨by rw [List.length_reverse]; exact h.1, fun x hx => h.2 x (List.mem_reverse.1 hx)⟩
end Go.Icz
namespace Go.Proofs.Ytbebhcdnnfgchaa
open Go.RowKit Go.Icz
set_option maxRecDepth 100000 in
set_option maxHeartbeats 8000000 in
theorem rows_walk (v : Value) (nb : Bool) (l : List EV) (W : World) (hR : RdE W v l) (hz : SzE l) :
    Calls Try.prog 5 #[v, .bool nb] W fun e w' => e = .returned (.bool true) ∧ Below W.heap.size W w' := by
  have C1 := EAll_is v l W hR hz
  have C2 := fun u (m : List EV) w (h : RdE w u m) (hs : SzE m) => GTurn_is u m w h hs
  have C3 := fun u (m : List EV) w (h : RdE w u m) (hs : SzE m) => GOrd_is u nb m w h.1 hs.1
  have C4 := fun w (hb : Below W.heap.size W w) => ROrd_is v nb l w (hR.1.below hb) hz.1
  have C5 := fun w (hb : Below W.heap.size W w) => RTurn_is v l w (hR.below hb) hz
  have C6 := fun u1 u2 (m1 m2 : List EV) w (h1 : RdE w u1 m1) (h2 : RdE w u2 m2) hm hs => ESames_refl u1 u2 m1 m2 w h1 h2 hm hs
  have C7 := fun u B (m : List EV) w (h : OwE w B u m) (hs : SzE m) => Spoil_is u B m w h hs
  have lab : ∀ w, Below W.heap.size W w → ∀ x ∈ l.reverse, KLab.Rd w (lbV x) x.1.labs := fun w hb x hx => (hR.2 x (List.mem_reverse.1 hx)).below hb
  have HR := fun w (hb : Below W.heap.size W w) => hR.below hb
  obtain ⟨A0, c0, hv, _⟩ := hR.1.form
  subst hv
  generalize hvv : (Value.slice A0 l.length c0) = v at *
  have HVV := hid hvv
  clear hvv hR
  have C3' : ∀ u (m : List EV) w, RdE w u m → SzE m → m.map (·.1) = l.map (·.1) → Calls Try.prog 25 #[u, .bool nb] w fun e w' => e = .returned (.bool (ordB nb (l.map (·.1)))) ∧ Below w.heap.size w w' := fun u m w h hs hm => by
    have := C3 u m w h hs
    rwa [hm] at this
  clear C3
  generalize ordB nb (l.map (·.1)) = ob at *
  have hob : (ob == ob) = true := by simp
  have t1 := True.intro
  have t2 := True.intro
  go_enter Try.func5, Try.ntmps5
  go_wp2_with (first
    | (go_at_call 23; refine C1.mono ?_; rintro e w1 ⟨u1, m1, rfl, o1, hm1, b1⟩; have HM1 := hid hm1; have s1 := hz.of_map hm1; have D2 := C2 u1 m1 w1 o1.rd s1; clear C1 C2 hm1)
    | (go_at_call 24; refine D2.mono ?_; rintro e w2 ⟨u2, m2, rfl, o2, hm2, b2⟩; have HM2 := hid hm2; have bw2 := b1.trans (b2.mono b1.size); have x2 := o1.rd.below b2; have D3 := C3' u1 m1 w2 x2 s1 HM1.out; clear D2 C3' hm2)
    | (go_at_call 25; refine D3.mono ?_; rintro e w3 ⟨rfl, b3⟩; have bw3 := bw2.trans (b3.mono bw2.size); have D4 := C4 w3 bw3; clear D3 C4)
    | (go_at_call 26; refine D4.mono ?_; rintro e w4 ⟨rfl, b4⟩; have bw4 := bw3.trans (b4.mono bw3.size); have D5 := C5 w4 bw4; clear D4 C5)
    | (go_at_call 27; refine D5.mono ?_; rintro e w5 ⟨u5, rfl, o5, b5⟩; have bw5 := bw4.trans (b5.mono bw4.size); have a5 := o2.below (b3.trans ((b4.trans (b5.mono b4.size)).mono b3.size)); have HS2 := hid (s1.of_map (m := m2.reverse) (by rw [List.map_reverse, HM2.out, List.reverse_reverse])); have s2 : SzE m2 := by { have := HS2.out.rev; rwa [List.reverse_reverse] at this }; have D6 := C6 u2 u5 m2 l.reverse w5 a5.rd ⟨o5.rd, lab w5 bw5⟩ (by rw [HM2.out, HM1.out, List.map_reverse]) s2; clear D5 lab)
    | (clear t1; go_at_call 21; refine D6.mono ?_; rintro e w6 ⟨rfl, b6⟩; have bw6 := bw5.trans (b6.mono bw5.size); have D7 := C7 u2 w1.heap.size m2 w6 (a5.below b6) s2; have x6 := x2.below (b3.trans ((b4.trans ((b5.trans (b6.mono b5.size)).mono b4.size)).mono b3.size)); clear D6 C7)
    | (go_at_call 15; refine D7.mono ?_; rintro e w7 ⟨rfl, lt7⟩; have b17 : Below w1.heap.size w1 w7 := (b2.trans (b3.trans (b4.trans (b5.trans (b6.mono b5.size) |>.mono b4.size) |>.mono b3.size) |>.mono b2.size)).trans (lt7.below (by have := b2.size; have := b3.size; have := b4.size; have := b5.size; have := b6.size; omega)); have bw7 := b1.trans (b17.mono b1.size); have D8 := C6 u1 v m1 l w7 (o1.rd.below b17) (HR _ bw7) HM1.out s1; clear D7 C6)
    | (clear t2; go_at_call 21; refine D8.mono ?_; rintro e w8 ⟨rfl, b8⟩; have bw8 := bw7.trans (b8.mono bw7.size); clear D8)
    | (go_at_call 14; refine (knows_is _).mono ?_; rintro e w9 ⟨rfl, b9⟩))
  go_ret
  exact ⟨rfl, bw8.trans (b9.mono bw8.size)⟩
end Go.Proofs.Ytbebhcdnnfgchaa
