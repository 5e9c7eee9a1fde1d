/-
  PlannerLooks: which blocks of any list are looked at, and which are over: the walk. Conditions: the list is no longer than 2^40; a number is one that an int holds.
-/
import Derived.Test.YtoomhfjmcdbgkaaNkn
namespace Go.Proofs.Ytoomhfjmcdbgkaa
open Go.RowKit Go.Icz
theorem ints_eq {v u : Value} {a : List Int} {w : World} (hR : KInt.Rd w v a) (hS : KInt.Rd w u a) (ha : a.length ≤ 1099511627776) :
    Calls Try.prog 23 #[v, u] w fun e w' => e = .returned (.bool true) ∧ Below w.heap.size w w' := by
  have h := Ints_is v u a a w hR hS ha ha
  rw [decide_eq_true rfl] at h
  exact h
theorem ids_those_len (l : List MV) (p : MV → Bool) : (idsM (thoseM l p)).length ≤ l.length := by
  unfold idsM
  rw [List.length_map]
  exact those_len l p
set_option maxRecDepth 100000 in
set_option maxHeartbeats 4000000 in
theorem looks_walk (v : Value) (l : List MV) (f t k n : Int) (W : World) (hR : KRm.Rd W v l) (hlen : l.length ≤ 1099511627776) (hwf : ∀ x ∈ l, wfI x.id) (hn : n ≤ 9223372036854775807) :
    Calls Try.prog 4 #[v, .int .i64 f, .int .i64 t, .int .i64 k, .int .i64 n] W fun e w' => e = .returned (.bool true) ∧ Below W.heap.size W w' := by
  have hl1 := ids_those_len l (lookM f t)
  have hl2 := ids_those_len l (overM k n)
  have cList := List_is v l W hR hlen
  have cLook := fun u w1 (h : KMet.Rd w1 u l) => Look_is u l f t w1 h hlen hwf
  have cRLook := fun w1 (h : Below W.heap.size W w1) => RLook_is v l f t w1 (hR.below h) hlen
  have cOver := fun u w1 (h : KMet.Rd w1 u l) => Over_is u l k n w1 h hlen hwf hn
  have cROver := fun w1 (h : Below W.heap.size W w1) => ROver_is v l k n w1 (hR.below h) hlen hn
  have cSame := fun u w1 (h : KMet.Rd w1 u l) (hW : Below W.heap.size W w1) => same_is u v l w1 h (hR.below hW) hlen
  obtain ⟨A, c, rfl, _⟩ := hR.form
  clear hR hwf
  generalize idsM (thoseM l (lookM f t)) = a1 at *
  generalize idsM (thoseM l (overM k n)) = a2 at *
  have H1 := hid (show a1.length ≤ 1099511627776 by omega)
  have H2 := hid (show a2.length ≤ 1099511627776 by omega)
  clear hl1 hl2
  have t1 := True.intro
  go_enter Try.func4, Try.ntmps4
  go_wp2_with (first
    | (go_at_call 10; go_loud (refine cList.mono ?_; rintro e wx ⟨ux, rfl, ox, hb⟩; have rx := ox.rd; obtain ⟨Ax, cx, rfl, _⟩ := rx.form; clear cList ox))
    | (go_at_call 24; go_loud (refine (cLook _ _ rx).mono ?_; rintro e w2 ⟨u1, rfl, o1, b2⟩; have r1 := o1.rd; obtain ⟨A1, c1, rfl, _⟩ := r1.form; have rx := rx.below b2; have hb := hb.trans (b2.mono hb.size); clear cLook o1 b2))
    | (go_at_call 25; go_loud (refine (cRLook _ hb).mono ?_; rintro e w3 ⟨u2, rfl, o2, b3⟩; have r2 := o2.rd; obtain ⟨A2, c2, rfl, _⟩ := r2.form; have r1 := r1.below b3; have rx := rx.below b3; have hb := hb.trans (b3.mono hb.size); have cI := ints_eq r1 r2 H1.out; clear cRLook o2 b3))
    | (clear t1; go_at_call 23; go_loud (refine cI.mono ?_; rintro e w4 ⟨rfl, b4⟩; have rx := rx.below b4; have hb := hb.trans (b4.mono hb.size); clear cI b4))
    | (go_at_call 26; go_loud (refine (cOver _ _ rx).mono ?_; rintro e w5 ⟨u3, rfl, o3, b5⟩; have r3 := o3.rd; obtain ⟨A3, c3, rfl, _⟩ := r3.form; have rx := rx.below b5; have hb := hb.trans (b5.mono hb.size); clear cOver o3 b5))
    | (go_at_call 27; go_loud (refine (cROver _ hb).mono ?_; rintro e w6 ⟨u4, rfl, o4, b6⟩; have r4 := o4.rd; obtain ⟨A4, c4, rfl, _⟩ := r4.form; have r3 := r3.below b6; have rx := rx.below b6; have hb := hb.trans (b6.mono hb.size); have cJ := ints_eq r3 r4 H2.out; clear cROver o4 b6))
    | (go_at_call 23; go_loud (refine cJ.mono ?_; rintro e w7 ⟨rfl, b7⟩; have rx := rx.below b7; have hb := hb.trans (b7.mono hb.size); clear cJ b7))
    | (go_at_call 28; go_loud (refine (cSame _ _ rx hb).mono ?_; rintro e w8 ⟨rfl, b8⟩; have hb := hb.trans (b8.mono hb.size); clear cSame b8))
    | (go_at_call 22; go_loud (refine (knows_is _).mono ?_; rintro e w9 ⟨rfl, b9⟩; have hb := hb.trans (b9.mono hb.size); clear b9)))
  go_ret
  exact ⟨rfl, hb⟩
end Go.Proofs.Ytoomhfjmcdbgkaa
