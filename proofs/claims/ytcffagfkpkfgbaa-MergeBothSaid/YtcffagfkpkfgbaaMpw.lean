/-
  The laws MergePieces and MergeBoth, walked. Conditions: the arguments can be read; sizes as each theorem names.
-/
import Derived.Test.YtcffagfkpkfgbaaMdw
namespace Go.Icz
open Go.RowKit
theorem st_nodup {nb : Bool} {l s : List EV} (hd : (l.map fun x => (kyV x).2).Nodup) (h : StB nb l s) : (s.map fun x => (kyV x).2).Nodup := ((h.2.map _).nodup_iff).2 hd
theorem st_one {nb : Bool} {l s m : List EV} (hd : (l.map fun x => (kyV x).2).Nodup) (h1 : StB nb l s) (h2 : StB nb l m) : m = s :=
  sorted_one kyV h2.1 h1.1 (st_nodup hd h1) (h2.2.trans h1.2.symm)
theorem st_turn {l s : List EV} (h : StB false l s) : StB true l s.reverse := ⟨sorted_turn kyV h.1, (List.reverse_perm s).trans h.2⟩
end Go.Icz
namespace Go.Proofs.Ytcffagfkpkfgbaa
open Go.RowKit Go.Icz Go.Maps
set_option maxRecDepth 100000
set_option maxHeartbeats 8000000
theorem all_deal {nb : Bool} {R : List SR} {s l1 G : List EV} (hd : (l1.map fun x => (kyV x).2).Nodup) (hs : StB nb l1 s) (hc : Cv R s s.length) (hm : G.map (·.1) = takeM 0 (ansE nb (bare R))) : G.map (·.1) = s.map (·.1) := by
  rw [hm]
  unfold takeM
  rw [if_pos rfl, ← ans_bare, merged_is kyV hs.1 (st_nodup hd hs)]
  · intro r hr
    obtain ⟨q, hq, rfl⟩ := List.mem_map.1 hr
    obtain ⟨i, hi, rfl⟩ := List.getElem_of_mem hq
    have := hc.1 i hi
    rwa [List.take_length] at this
  · intro x hx
    obtain ⟨j, hj, hxj⟩ := hc.2 x (by rwa [List.take_length])
    exact ⟨_, List.mem_map.2 ⟨R[j], List.getElem_mem hj, rfl⟩, hxj⟩
theorem deal_rd {W w : World} {B : Nat} {u : Value} {R : List SR} {s l1 : List EV} {nb : Bool} (hG : ∀ x ∈ l1, GoodE W x) (hb : Below W.heap.size W w) (ho : KSl.Own w B u R) (h4 : R.length = 4) (hown : ∀ i (hi : i < R.length), KEnt.Own w B R[i].v R[i].l) (hs : StB nb l1 s) (hc : Cv R s s.length) (hl : l1.length ≤ 200) : RdR w u R ∧ SzR R := by
  have hsub : ∀ r ∈ R, KEnt.Rd w (.slice r.A r.l.length r.c) r.l ∧ r.l.Sublist s := fun r hr => by
    obtain ⟨i, hi, rfl⟩ := List.getElem_of_mem hr
    have := hc.1 i hi
    rw [List.take_length] at this
    exact ⟨(hown i hi).rd, this⟩
  refine ⟨⟨ho.rd, fun r hr => ⟨(hsub r hr).1, fun x hx => ?_⟩⟩, by omega, ?_⟩
  · have h := hG x (hs.2.mem_iff.1 ((hsub r hr).2.subset hx))
    exact ⟨h.1.below hb, h.2⟩
  · have := tot_le 200 (R.map (·.l)) (fun m hm => by
      obtain ⟨r, hr, rfl⟩ := List.mem_map.1 hm
      have := (hsub r hr).2.length_le
      have := hs.2.length_eq
      omega)
    rw [List.length_map, h4] at this
    omega
theorem good_rd {W w : World} {v : Value} {l1 m : List EV} (hG : ∀ x ∈ l1, GoodE W x) (hb : Below W.heap.size W w) (hr : KEnt.Rd w v m) (hm : ∀ x ∈ m, x ∈ l1) (hl : m.length ≤ 200) : RdE w v m ∧ SzE m :=
  ⟨⟨hr, fun x hx => ((hG x (hm x hx)).1.below hb)⟩, by omega, fun x hx => (hG x (hm x hx)).2.2⟩
theorem pieces_false (v vt : Value) (l : List EV) (T : List Int) (W : World) (hR : KEnt.Rd W v l) (hg : ∀ x ∈ l, GoodE W x) (hT : KInt.Rd W vt T) :
    Calls Try.prog 3 #[v, vt, .bool false] W fun e w' => e = .returned (.bool true) ∧ Below W.heap.size W w' := by
  obtain ⟨A, c, rfl, _⟩ := hR.form
  have KN := fun w => knows_is w
  by_cases h200 : l.length ≤ 200
  · have hOn := once_is _ l W hR (fun x hx => (hg x hx).2.1) (by omega)
    obtain ⟨l1, hl1⟩ : ∃ l1, l1 = outs kyV [] l := ⟨_, rfl⟩
    have HD : Hid ((l1.map fun x => (kyV x).2).Nodup) := hid (by rw [hl1]; exact (outs_nodup kyV [] l).1)
    have HL : Hid (l1.length ≤ 200) := hid (by rw [hl1]; exact Nat.le_trans (outs_le kyV [] l) h200)
    have HG : Hid (∀ x ∈ l1, GoodE W x) := hid (fun x hx => hg x ((outs_sub kyV [] l).subset (by rw [← hl1]; exact hx)))
    rw [← hl1] at hOn
    have HT := hid hT
    clear hl1 hR hg hT
    have hgt : ¬ (200 : Int) < (l.length : Int) := by omega
    have GR := fun (w : World) (u : Value) (m : List EV) (hb : Below W.heap.size W w) (hr : KEnt.Rd w u m) (hm : m.Perm l1) => good_rd HG.out hb hr (fun x hx => hm.mem_iff.1 hx) (by rw [hm.length_eq]; exact HL.out)
    have HGR := hid GR
    clear GR
    go_enter Try.func3, Try.ntmps3
    go_wp2_with (first
      | (go_at_call 6; refine hOn.mono ?_; rintro e w1 ⟨u1, rfl, o1, b1⟩; have O1 := hid o1; have B1 := hid b1; have S1 := R3Sort_is u1 l1 w1 o1.rd (by have := HL.out; omega); clear hOn o1 b1)
      | (go_at_call 7; refine S1.mono ?_; rintro e w2 ⟨u2, m2, rfl, o2, st2, b2⟩; have O2 := hid o2; have ST := hid st2; have B2 := hid (B1.out.trans (b2.mono B1.out.size)); have B12 := hid b2; clear S1 o2 st2 b2; have D1 := deal_is false u1 vt l1 T w2 (HGR.out w2 u1 l1 B2.out (O1.out.rd.below B12.out) (.refl _)).1 (HGR.out w2 u1 l1 B2.out (O1.out.rd.below B12.out) (.refl _)).2 (HT.out.below B2.out))
      | (go_at_call 10; refine D1.mono ?_; rintro e w4 ⟨u4, R4, s4, rfl, o4, h4, ow4, st4, cv4, b4⟩; have B4 := hid (B2.out.trans (b4.mono B2.out.size)); have RR := hid (deal_rd HG.out B4.out o4 h4 ow4 st4 cv4 HL.out); have ST4 := hid st4; have CV4 := hid cv4; have BD := hid b4; have AL := GAll_bare u4 false 0 R4 w4 RR.out.1 RR.out.2; clear D1 o4 h4 ow4 st4 cv4 b4)
      | (go_at_call 9; refine AL.mono ?_; rintro e w5 ⟨u5, G, rfl, oG, mG, zG, b5⟩; have B5 := hid (B4.out.trans (b5.mono B4.out.size)); have EQ := hid ((all_deal HD.out ST4.out CV4.out mG).trans (by rw [← st_one HD.out ST4.out (show StB false l1 m2 from ST.out)])); have SM := ESames_refl u5 u2 G m2 w5 oG.rd (HGR.out w5 u2 m2 B5.out ((O2.out.rd.below (BD.out.mono (Nat.le_refl _))).below b5) (show StB false l1 m2 from ST.out).2).1 EQ.out zG; clear AL oG mG zG b5)
      | (go_at_call 11; refine SM.mono ?_; rintro e w6 ⟨rfl, b6⟩; have B6 := hid (B5.out.trans (b6.mono B5.out.size)); have K6 := KN w6; clear SM b6)
      | (go_at_call 5; refine K6.mono ?_; rintro e w7 ⟨rfl, b7⟩; have B7 := hid (B6.out.trans (b7.mono B6.out.size)); clear K6 b7)
      | fail)
    go_ret
    exact ⟨rfl, B7.out⟩
  · have hgt : (200 : Int) < (l.length : Int) := by omega
    have K6 := KN W
    clear hR hg hT
    go_enter Try.func3, Try.ntmps3
    go_wp2_with (first
      | (go_at_call 5; refine K6.mono ?_; rintro e w7 ⟨rfl, b7⟩; have B7 := hid b7; clear K6 b7)
      | fail)
    go_ret
    exact ⟨rfl, B7.out⟩
theorem pieces_true (v vt : Value) (l : List EV) (T : List Int) (W : World) (hR : KEnt.Rd W v l) (hg : ∀ x ∈ l, GoodE W x) (hT : KInt.Rd W vt T) :
    Calls Try.prog 3 #[v, vt, .bool true] W fun e w' => e = .returned (.bool true) ∧ Below W.heap.size W w' := by
  obtain ⟨A, c, rfl, _⟩ := hR.form
  have KN := fun w => knows_is w
  by_cases h200 : l.length ≤ 200
  · have hOn := once_is _ l W hR (fun x hx => (hg x hx).2.1) (by omega)
    obtain ⟨l1, hl1⟩ : ∃ l1, l1 = outs kyV [] l := ⟨_, rfl⟩
    have HD : Hid ((l1.map fun x => (kyV x).2).Nodup) := hid (by rw [hl1]; exact (outs_nodup kyV [] l).1)
    have HL : Hid (l1.length ≤ 200) := hid (by rw [hl1]; exact Nat.le_trans (outs_le kyV [] l) h200)
    have HG : Hid (∀ x ∈ l1, GoodE W x) := hid (fun x hx => hg x ((outs_sub kyV [] l).subset (by rw [← hl1]; exact hx)))
    rw [← hl1] at hOn
    have HT := hid hT
    clear hl1 hR hg hT
    have hgt : ¬ (200 : Int) < (l.length : Int) := by omega
    have GR := fun (w : World) (u : Value) (m : List EV) (hb : Below W.heap.size W w) (hr : KEnt.Rd w u m) (hm : m.Perm l1) => good_rd HG.out hb hr (fun x hx => hm.mem_iff.1 hx) (by rw [hm.length_eq]; exact HL.out)
    have HGR := hid GR
    clear GR
    go_enter Try.func3, Try.ntmps3
    go_wp2_with (first
      | (go_at_call 6; refine hOn.mono ?_; rintro e w1 ⟨u1, rfl, o1, b1⟩; have O1 := hid o1; have B1 := hid b1; have S1 := R3Sort_is u1 l1 w1 o1.rd (by have := HL.out; omega); clear hOn o1 b1)
      | (go_at_call 7; refine S1.mono ?_; rintro e w2 ⟨u2, m2, rfl, o2, st2, b2⟩; have O2 := hid o2; have ST := hid st2; have B2 := hid (B1.out.trans (b2.mono B1.out.size)); have B12 := hid b2; clear S1 o2 st2 b2; have TN := RTurn_is u2 m2 w2 (HGR.out w2 u2 m2 B2.out O2.out.rd ST.out.2).1 (HGR.out w2 u2 m2 B2.out O2.out.rd ST.out.2).2)
      | (go_at_call 8; refine TN.mono ?_; rintro e w3 ⟨u3, rfl, o3, b3⟩; have O3 := hid o3; have B3 := hid (B2.out.trans (b3.mono B2.out.size)); have ST3 := hid (st_turn ST.out); have D1 := deal_is true u1 vt l1 T w3 (HGR.out w3 u1 l1 B3.out ((O1.out.rd.below B12.out).below b3) (.refl _)).1 (HGR.out w3 u1 l1 B3.out ((O1.out.rd.below B12.out).below b3) (.refl _)).2 (HT.out.below B3.out); generalize m2.reverse = m3 at *; clear TN o3 b3)
      | (go_at_call 10; refine D1.mono ?_; rintro e w4 ⟨u4, R4, s4, rfl, o4, h4, ow4, st4, cv4, b4⟩; have B4 := hid (B3.out.trans (b4.mono B3.out.size)); have RR := hid (deal_rd HG.out B4.out o4 h4 ow4 st4 cv4 HL.out); have ST4 := hid st4; have CV4 := hid cv4; have BD := hid b4; have AL := GAll_bare u4 true 0 R4 w4 RR.out.1 RR.out.2; clear D1 o4 h4 ow4 st4 cv4 b4)
      | (go_at_call 9; refine AL.mono ?_; rintro e w5 ⟨u5, G, rfl, oG, mG, zG, b5⟩; have B5 := hid (B4.out.trans (b5.mono B4.out.size)); have EQ := hid ((all_deal HD.out ST4.out CV4.out mG).trans (by rw [← st_one HD.out ST4.out (ST3.out)])); have SM := ESames_refl u5 u3 G m3 w5 oG.rd (HGR.out w5 u3 m3 B5.out ((O3.out.rd.below (BD.out.mono (Nat.le_refl _))).below b5) (ST3.out).2).1 EQ.out zG; clear AL oG mG zG b5)
      | (go_at_call 11; refine SM.mono ?_; rintro e w6 ⟨rfl, b6⟩; have B6 := hid (B5.out.trans (b6.mono B5.out.size)); have K6 := KN w6; clear SM b6)
      | (go_at_call 5; refine K6.mono ?_; rintro e w7 ⟨rfl, b7⟩; have B7 := hid (B6.out.trans (b7.mono B6.out.size)); clear K6 b7)
      | fail)
    go_ret
    exact ⟨rfl, B7.out⟩
  · have hgt : (200 : Int) < (l.length : Int) := by omega
    have K6 := KN W
    clear hR hg hT
    go_enter Try.func3, Try.ntmps3
    go_wp2_with (first
      | (go_at_call 5; refine K6.mono ?_; rintro e w7 ⟨rfl, b7⟩; have B7 := hid b7; clear K6 b7)
      | fail)
    go_ret
    exact ⟨rfl, B7.out⟩
theorem pieces_walk (v vt : Value) (l : List EV) (T : List Int) (nb : Bool) (W : World) (hR : KEnt.Rd W v l) (hg : ∀ x ∈ l, GoodE W x) (hT : KInt.Rd W vt T) :
    Calls Try.prog 3 #[v, vt, .bool nb] W fun e w' => e = .returned (.bool true) ∧ Below W.heap.size W w' := by
  cases nb
  · exact pieces_false v vt l T W hR hg hT
  · exact pieces_true v vt l T W hR hg hT
end Go.Proofs.Ytcffagfkpkfgbaa
