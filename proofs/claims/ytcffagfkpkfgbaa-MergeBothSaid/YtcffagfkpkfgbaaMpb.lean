/-
  The law MergeBoth, walked. Conditions: the arguments can be read; sizes as the theorem names.
-/
import Derived.Test.YtcffagfkpkfgbaaMpi
namespace Go.Proofs.Ytcffagfkpkfgbaa
open Go.RowKit Go.Icz Go.Maps
set_option maxRecDepth 100000
set_option maxHeartbeats 8000000
theorem szE_of {l m : List EV} (h : SzE l) (hm : m.map (·.1) = (l.map (·.1)).reverse) : SzE m := by
  have h1 := congrArg List.length hm
  rw [List.length_map, List.length_reverse, List.length_map] at h1
  refine ⟨by rw [h1]; exact h.1, fun x hx => ?_⟩
  have hx1 : x.1 ∈ m.map (·.1) := List.mem_map.2 ⟨x, hx, rfl⟩
  rw [hm, List.mem_reverse] at hx1
  obtain ⟨y, hy, e⟩ := List.mem_map.1 hx1
  rw [← e]
  exact h.2 y hy
theorem both_walk (v vt : Value) (l : List EV) (T : List Int) (W : World) (hR : KEnt.Rd W v l) (hg : ∀ x ∈ l, GoodE W x) (hT : KInt.Rd W vt T) :
    Calls Try.prog 4 #[v, vt] W fun e w' => e = .returned (.bool true) ∧ Below W.heap.size W w' := by
  obtain ⟨A, c, rfl, _⟩ := hR.form
  have KN := fun w => knows_is w
  by_cases h200 : l.length ≤ 200
  · have hOn := once_is _ l W hR (fun x hx => (hg x hx).2.1) (by omega)
    obtain ⟨l1, hl1⟩ : ∃ l1, l1 = outs kyV [] l := ⟨_, rfl⟩
    have HD : Hid ((l1.map fun x => (kyV x).2).Nodup) := hid (by rw [hl1]; exact (outs_nodup kyV [] l).1)
    have HL : Hid (l1.length ≤ 200) := hid (by rw [hl1]; exact Nat.le_trans (outs_le kyV [] l) h200)
    have HG : Hid (∀ x ∈ l1, GoodE W x) := hid (fun x hx => hg x ((outs_sub kyV [] l).subset (by rw [← hl1]; exact hx)))
    rw [← hl1] at hOn
    have HT := hid hT
    clear hl1 hR hg hT
    have hgt : ¬ (200 : Int) < (l.length : Int) := by omega
    have GR := fun (w : World) (u : Value) (m : List EV) (hb : Below W.heap.size W w) (hr : KEnt.Rd w u m) (hm : m.Perm l1) => good_rd HG.out hb hr (fun x hx => hm.mem_iff.1 hx) (by rw [hm.length_eq]; exact HL.out)
    have HGR := hid GR
    clear GR
    have t1 := True.intro
    have t2 := True.intro
    go_enter Try.func4, Try.ntmps4
    go_wp2_with (first
      | (go_at_call 6; refine hOn.mono ?_; rintro e w1 ⟨u1, rfl, o1, b1⟩; have O1 := hid o1; have B1 := hid b1; obtain ⟨A1, c1, e1, _⟩ := o1.rd.form; subst e1; have D1 := deal_is false (.slice A1 l1.length c1) vt l1 T w1 (HGR.out w1 _ l1 B1.out O1.out.rd (.refl _)).1 (HGR.out w1 _ l1 B1.out O1.out.rd (.refl _)).2 (HT.out.below B1.out); clear hOn o1 b1)
      | (clear t1; go_at_call 10; refine D1.mono ?_; rintro e w2 ⟨u2, R2, s2, rfl, o2, h2, ow2, st2, cv2, b2⟩; have B2 := hid (B1.out.trans (b2.mono B1.out.size)); have B12 := hid b2; have RR := hid (deal_rd HG.out B2.out o2 h2 ow2 st2 cv2 HL.out); have ST2 := hid st2; have CV2 := hid cv2; have AL := GAll_bare u2 false 0 R2 w2 RR.out.1 RR.out.2; clear D1 o2 h2 ow2 st2 cv2 b2)
      | (clear t2; go_at_call 9; refine AL.mono ?_; rintro e w3 ⟨u3, G3, rfl, oG, mG, zG, b3⟩; have B3 := hid (B2.out.trans (b3.mono B2.out.size)); have B13 := hid (B12.out.trans (b3.mono B12.out.size)); have EQ3 := hid (all_deal HD.out ST2.out CV2.out mG); have OG3 := hid oG; have ZG3 := hid zG; obtain ⟨A3, c3, e3, _⟩ := oG.1.rd.form; subst e3; have D2 := deal_is true (.slice A1 l1.length c1) vt l1 T w3 (HGR.out w3 _ l1 B3.out (O1.out.rd.below B13.out) (.refl _)).1 (HGR.out w3 _ l1 B3.out (O1.out.rd.below B13.out) (.refl _)).2 (HT.out.below B3.out); clear AL RR CV2 oG mG zG b3)
      | (go_at_call 10; refine D2.mono ?_; rintro e w4 ⟨u4, R4, s4, rfl, o4, h4, ow4, st4, cv4, b4⟩; have B4 := hid (B3.out.trans (b4.mono B3.out.size)); have B34 := hid b4; have RR := hid (deal_rd HG.out B4.out o4 h4 ow4 st4 cv4 HL.out); have ST4 := hid st4; have CV4 := hid cv4; have AL2 := GAll_bare u4 true 0 R4 w4 RR.out.1 RR.out.2; clear D2 o4 h4 ow4 st4 cv4 b4)
      | (go_at_call 9; refine AL2.mono ?_; rintro e w5 ⟨u5, G5, rfl, oG, mG, zG, b5⟩; have B5 := hid (B4.out.trans (b5.mono B4.out.size)); have B35 := hid (B34.out.trans (b5.mono B34.out.size)); have EQ5 := hid (all_deal HD.out ST4.out CV4.out mG); have OG5 := hid oG; have TU := GTurn_is (.slice A3 G3.length c3) G3 w5 (OG3.out.rd.below B35.out) ZG3.out; clear AL2 RR CV4 oG mG zG b5)
      | (go_at_call 12; refine TU.mono ?_; rintro e w6 ⟨u6, m6, rfl, o6, hm6, b6⟩; have B6 := hid (B5.out.trans (b6.mono B5.out.size)); have EQ : m6.map (·.1) = G5.map (·.1) := (by rw [hm6, EQ3.out, EQ5.out, ← List.map_reverse, st_one HD.out ST4.out (st_turn ST2.out)]); have SM := ESames_refl u6 u5 m6 G5 w6 o6.rd (OG5.out.rd.below b6) EQ (szE_of ZG3.out hm6); clear TU o6 hm6 b6 EQ)
      | (go_at_call 11; refine SM.mono ?_; rintro e w7 ⟨rfl, b7⟩; have B7 := hid (B6.out.trans (b7.mono B6.out.size)); have K6 := KN w7; have GL : G3.length = l1.length := (by have h1 := congrArg List.length EQ3.out; rw [List.length_map, List.length_map] at h1; exact h1.trans ST2.out.2.length_eq); clear SM b7)
      | (go_at_call 5; refine K6.mono ?_; rintro e w8 ⟨rfl, b8⟩; have B8 := hid (B7.out.trans (b8.mono B7.out.size)); clear K6 b8)
      | fail)
    go_ret
    exact ⟨rfl, B8.out⟩
  · have hgt : (200 : Int) < (l.length : Int) := by omega
    have K6 := KN W
    clear hR hg hT
    go_enter Try.func4, Try.ntmps4
    go_wp2_with (first
      | (go_at_call 5; refine K6.mono ?_; rintro e w7 ⟨rfl, b7⟩; have B7 := hid b7; clear K6 b7)
      | fail)
    go_ret
    exact ⟨rfl, B7.out⟩
end Go.Proofs.Ytcffagfkpkfgbaa
