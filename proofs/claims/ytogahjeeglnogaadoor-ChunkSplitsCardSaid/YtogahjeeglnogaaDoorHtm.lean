/-
  Entries of two pieces of time that stand side by side are those of both together: the law's walk. Conditions: those that each theorem names.
-/
import Derived.Test.YtogahjeeglnogaaDoorHbt
import Derived.Test.YtogahjeeglnogaaDoorHkn
import Derived.Test.YtogahjeeglnogaaDoorHop
namespace Go.Icz
open Go.RowKit
theorem filt_split {fr mid til : Int} (h1 : fr ≤ mid) (h2 : mid ≤ til) : ∀ (l : List CRow), l.Pairwise (fun x y => x.time ≤ y.time) → l.filter (inT fr mid) ++ l.filter (inT mid til) = l.filter (inT fr til)
  | [], _ => rfl
  | a :: t, h => by
    obtain ⟨ha, ht⟩ := List.pairwise_cons.1 h
    have ih := filt_split h1 h2 t ht
    by_cases hm : a.time < mid
    · have e1 : inT mid til a = false := by unfold inT; simp; omega
      have e2 : inT fr mid a = inT fr til a := by
        unfold inT
        have : a.time < til := by omega
        simp [hm, this]
      rw [List.filter_cons, List.filter_cons, List.filter_cons, e1, e2]
      cases inT fr til a
      · simpa using ih
      · simpa using ih
    · have e1 : ∀ x ∈ a :: t, inT fr mid x = false := by
        intro x hx
        have : mid ≤ x.time := by
          rcases List.mem_cons.1 hx with rfl | hx
          · omega
          · have := ha x hx; omega
        unfold inT
        simp
        intro _
        omega
      have e2 : ∀ x ∈ a :: t, inT mid til x = inT fr til x := by
        intro x hx
        have : mid ≤ x.time := by
          rcases List.mem_cons.1 hx with rfl | hx
          · omega
          · have := ha x hx; omega
        have h3 : fr ≤ x.time := by omega
        unfold inT
        simp [this, h3]
      rw [List.filter_eq_nil_iff.2 (fun x hx => by rw [e1 x hx]; decide), List.nil_append]
      exact List.filter_congr e2
theorem pair_sorted : ∀ (l : List CRow), (∀ p ∈ prs l 0, p.1.time ≤ p.2.time) → l.Pairwise (fun x y => x.time ≤ y.time)
  | [], _ => List.Pairwise.nil
  | [a], _ => List.pairwise_singleton ..
  | a :: b :: t, h => by
    have e : prs (a :: b :: t) 0 = (a, b) :: prs (b :: t) 0 := by unfold prs; simp
    rw [e] at h
    have ih := pair_sorted (b :: t) (fun p hp => h p (List.mem_cons_of_mem _ hp))
    refine List.pairwise_cons.2 ⟨fun x hx => ?_, ih⟩
    have hab : a.time ≤ b.time := h (a, b) (List.mem_cons_self ..)
    rcases List.mem_cons.1 hx with rfl | hx
    · exact hab
    · have := (List.pairwise_cons.1 ih).1 x hx
      omega
end Go.Icz
namespace Go.Proofs.YtogahjeeglnogaaDoor
open Go.RowKit Go.Icz Go.Shelf
attribute [local go_sem] Oper.semAt_some
set_option maxRecDepth 100000
set_option maxHeartbeats 4000000
theorem bet_split (labs : List Lab) (rows : List CRow) {fr mid til : Int} (h1 : fr ≤ mid) (h2 : mid ≤ til) : betC labs rows fr mid ++ betC labs rows mid til = betC labs rows fr til := by
  unfold betC
  cases hf : chR labs rows
  · rfl
  · rw [if_pos rfl, if_pos rfl, if_pos rfl, ← List.map_append, filt_split h1 h2]
    refine pair_sorted rows (fun p hp => ?_)
    unfold chR at hf
    simp only [Bool.and_eq_true] at hf
    have := List.all_eq_true.1 hf.1.2 p hp
    exact cmpE_time (of_decide_eq_true this)
theorem bet_sz {labs : List Lab} {rows : List CRow} {fr til : Int} : (betC labs rows fr til).length ≤ 1000 ∧ ∀ x ∈ betC labs rows fr til, x.labs.length ≤ 4611686018427387904 := by
  unfold betC
  cases hf : chR labs rows
  · simp
  · rw [if_pos rfl]
    have hf2 := hf
    unfold chR at hf2
    simp only [Bool.and_eq_true, decide_eq_true_eq] at hf2
    obtain ⟨⟨⟨⟨n1, n2⟩, hrr⟩, -⟩, _⟩ := hf2
    refine ⟨?_, fun x hx => ?_⟩
    · rw [List.length_map]
      have := List.length_filter_le (inT fr til) rows
      omega
    · obtain ⟨y, hy, rfl⟩ := List.mem_map.1 hx
      have := List.all_eq_true.1 hrr y (List.mem_filter.1 hy).1
      unfold entR entC at this
      simp only [Bool.and_eq_true, decide_eq_true_eq] at this
      have := (right_lens this.2).1
      unfold entC
      simp only
      omega
/-- 'append(v, x...)' at a step of a region that draws its order. -/
theorem step_appQ {ops : Array Oper} {o : Oper} {a : Act} {Kn : Act → World → Prop} {Q : Exit → Act → World → Prop} {E : Prop} {w : World} (hgd : o.guard = none) (s x : Operand)
    (ho : o.op = .call { callee := .builtin .append, args := #[s, x], argTypes := #[33, 33] })
    (B : Nat) (v u : Value) (l m : List EV) (hs : a.eval s = v) (hown : KEv.Own w B v l) (hx : a.eval x = u) (hr : KEv.Rd w u m)
    (hlen : l.length + m.length ≤ 2000) (hB : B ≤ w.heap.size)
    (h : ∀ v' w', KEv.Own w' B v' (l ++ m) → Below B w w' → Kn (a.put o.dst v') w') :
    if Region.wanted o (yielded ops a.tmps) = true then Oper.wp Tryd.prog o a w Kn Q else E := by
  obtain ⟨v', w', hrun, h1, h2⟩ := Kd.run_app (K := KEv) 33 o.type Tryd.underlying33 infoEv rfl B v u l m hown hr (by unfold maxLen; omega) (by omega) hB
  exact step_run_app hgd s x 33 ho v u v' w' hs hx hrun (h v' w' h1 ((Below.refl B w).grown h2 hB (fun k hk => (hown.lt k hk).1)))
theorem walk_no (labs : List Lab) (rows : List CRow) (A A2 : Option Addr) (C C2 : Nat) (fr mid til : Int) (w : World) (hT : Tabs w) (hc : mid < fr ∨ til < mid) :
    Calls Tryd.prog 5 #[.agg #[.slice A labs.length C, .slice A2 rows.length C2], .int .i64 fr, .int .i64 mid, .int .i64 til] w fun e w' => e = .returned (.bool true) ∧ Below w.heap.size w w' := by
  have b0 : Below w.heap.size w (w.alloc (.cells #[.slice A labs.length C, .slice A2 rows.length C2] 25)) := (Below.refl _ w).alloc (Nat.le_refl _) _
  have hk := knows4_is _ (hT.below b0)
  have HB := hid b0
  clear b0 hT
  by_cases h1 : mid < fr
  · clear hc
    go_enter Tryd.func5, Tryd.ntmps5
    go_wp2_with (go_at_call 14; refine hk.mono ?_; rintro e w1 ⟨rfl, b1⟩; clear hk)
    go_ret
    exact ⟨rfl, HB.out.trans (b1.mono HB.out.size)⟩
  · have h2 : til < mid := by omega
    clear hc
    go_enter Tryd.func5, Tryd.ntmps5
    go_wp2_with (go_at_call 14; refine hk.mono ?_; rintro e w1 ⟨rfl, b1⟩; clear hk)
    go_ret
    exact ⟨rfl, HB.out.trans (b1.mono HB.out.size)⟩
theorem walk_yes (labs : List Lab) (rows : List CRow) (A A2 : Option Addr) (C C2 : Nat) (fr mid til : Int) (w : World) (hL : RdL w (.slice A labs.length C) labs) (hR : KRr.Rd w (.slice A2 rows.length C2) rows) (hlz : labs.length * 32 ≤ 140737488351232) (hrz : rows.length * 32 ≤ 140737488351232) (hz : ∀ x ∈ rows, entZ (entC labs x)) (hT : Tabs w) (h1 : ¬ mid < fr) (h2 : ¬ til < mid) :
    Calls Tryd.prog 5 #[.agg #[.slice A labs.length C, .slice A2 rows.length C2], .int .i64 fr, .int .i64 mid, .int .i64 til] w fun e w' => e = .returned (.bool true) ∧ Below w.heap.size w w' := by
  have b0 : Below w.heap.size w (w.alloc (.cells #[.slice A labs.length C, .slice A2 rows.length C2] 25)) := (Below.refl _ w).alloc (Nat.le_refl _) _
  have hO := COwn_is labs rows A A2 C C2 _ (hL.below b0) (hR.below b0) hlz hrz
  unfold ChOut at hO
  have hBt := fun fr til A A2 C C2 wx (hL : RdL wx (.slice A labs.length C) labs) (hR : KRw.Rd wx (.slice A2 rows.length C2) rows) (hT : Tabs wx) => Between_is labs rows A A2 C C2 fr til wx hL hR hT hz (by omega)
  unfold BetOut at hBt
  have HBT := hid hBt
  have HT := hid (hT.below b0)
  have HB := hid b0
  have HSP : Hid (betC labs rows fr mid ++ betC labs rows mid til = betC labs rows fr til) := hid (bet_split labs rows (by omega) (by omega))
  have HSZ : Hid (∀ fr til, (betC labs rows fr til).length ≤ 1000 ∧ ∀ x ∈ betC labs rows fr til, x.labs.length ≤ 4611686018427387904) := hid (fun _ _ => bet_sz)
  clear hT hL hR hlz hrz hz hBt b0
  go_enter Tryd.func5, Tryd.ntmps5
  go_upto_region 4 with (first
    | (go_at_call 6; refine hO.mono ?_; rintro e w1 ⟨A1, c1, A3, c3, rfl, o1, o3, b1⟩; clear hO))
  obtain ⟨W1, hW1⟩ : ∃ W1, W1 = w1.alloc (.cells #[.slice A1 labs.length c1, .slice A3 rows.length c3] 28) := ⟨_, rfl⟩
  have b2 : Below w1.heap.size w1 W1 := by rw [hW1]; exact (Below.refl _ w1).alloc (Nat.le_refl _) _
  have x2 : W1.heap[w1.heap.size]? = some (.cells #[.slice A1 labs.length c1, .slice A3 rows.length c3] 28 (0, 0)) := by rw [hW1]; exact heap_alloc_new w1 _
  have r1 := o1.rd.below b2
  have r3 := o3.rd.below b2
  have t1 := (HT.out.below b1).below b2
  have cl : ∀ wx, Below W1.heap.size W1 wx → wx.cell? ⟨w1.heap.size, 0, none⟩ = some (.slice A1 labs.length c1) ∧ wx.cell? ⟨w1.heap.size, 1, none⟩ = some (.slice A3 rows.length c3) := fun wx bx => by
    have y := (bx.block _ (row_lt x2)).trans x2
    exact ⟨held_cell y rfl, held_cell y rfl⟩
  have hB1 := fun fr til wx (bx : Below W1.heap.size W1 wx) => HBT.out fr til A1 A3 c1 c3 wx (r1.below bx) (r3.below bx) (t1.below bx)
  have CL := hid cl
  have HBX := hid hB1
  have TT := hid t1
  have BB := hid ((HB.out.trans (b1.mono HB.out.size)).trans (b2.mono (Nat.le_trans HB.out.size b1.size)))
  obtain ⟨e0, e1⟩ := cl W1 (Below.refl _ _)
  have hBa := hB1 fr mid W1 (Below.refl _ _)
  clear cl hB1 t1 r1 r3 x2 b2 b1 o1 o3 HBT HT HB
  rw [← hW1]
  clear hW1
  go_upto_region 5 with (first
    | (go_at_call 9; refine hBa.mono ?_; rintro e w2 ⟨va, la, rfl, oa, ha, b2⟩; clear hBa))
  have hBb := HBX.out mid til w2 b2
  obtain ⟨e2, e3⟩ := CL.out w2 b2
  clear e0 e1
  go_upto_region 6 with (first
    | (go_at_call 9; refine hBb.mono ?_; rintro e w3 ⟨vb, lb, rfl, ob, hb, b3⟩; clear hBb))
  have b23 : Below W1.heap.size W1 w3 := b2.trans (b3.mono b2.size)
  have ra := oa.rd.below b3
  have rb := ob.rd
  obtain ⟨Aa, ca, rfl, _⟩ := ra.1.form
  obtain ⟨Ab, cb, rfl, _⟩ := rb.1.form
  have hla : la.length ≤ 1000 := by have := (HSZ.out fr mid).1; rw [← ha, List.length_map] at this; exact this
  have hlb : lb.length ≤ 1000 := by have := (HSZ.out mid til).1; rw [← hb, List.length_map] at this; exact this
  have HLB := hid (And.intro ha hb)
  have mkS : ∀ wx, Below w3.heap.size w3 wx → Below w3.heap.size w3 wx ∧ wx.cell? ⟨w1.heap.size, 0, none⟩ = some (.slice A1 labs.length c1) ∧ wx.cell? ⟨w1.heap.size, 1, none⟩ = some (.slice A3 rows.length c3) := fun wx bx => ⟨bx, CL.out wx (b23.trans (bx.mono b23.size))⟩
  have hk := mkS w3.drew (Below.refl _ _).drew
  have RA := hid ra
  have RB := hid rb
  have B23 := hid b23
  have MK := hid mkS
  have mA : KEv.Own (w3.drew.alloc (.cells #[] 55)) w3.heap.size (.slice (some ⟨w3.heap.size, 0, none⟩) 0 0) [] := World.ownsRow_made w3.drew #[] 0 (Nat.le_refl _) (by decide) (by simp)
  have dA : Below w3.heap.size w3 (w3.drew.alloc (.cells #[] 55)) := (Below.refl _ w3).drew.alloc (Nat.le_refl _) _
  have HDA := hid dA
  clear mkS ra rb b23 e2 e3 ha hb b3 oa ob b2 dA
  go_region_held3 (fun wx => Below w3.heap.size w3 wx ∧ wx.cell? ⟨w1.heap.size, 0, none⟩ = some (.slice A1 labs.length c1) ∧ wx.cell? ⟨w1.heap.size, 1, none⟩ = some (.slice A3 rows.length c3)) (first | exact hk | exact MK.out _ HDA.out)
    (first
      | (refine step_appQ (w := w3.drew.alloc (.cells #[] 55)) rfl (.tmp 31) (.tmp 32) rfl w3.heap.size (.slice (some ⟨w3.heap.size, 0, none⟩) 0 0) (.slice Aa la.length ca) [] la (by simp [Act.eval]) mA (by simp [Act.eval]) (RA.out.1.below HDA.out) (by simp; omega) HDA.out.size ?_; intro v6 w6 o6 b6; have hk := MK.out w6 (HDA.out.trans b6); rw [List.nil_append] at o6; clear mA)
      | (refine step_appQ (w := w6) rfl (.tmp 33) (.tmp 34) rfl w3.heap.size v6 (.slice Ab lb.length cb) la lb (by simp [Act.eval]) o6 (by simp [Act.eval]) (RB.out.1.below hk.1) (by omega) hk.1.size ?_; intro v7 w7 o7 b7; have hk := MK.out w7 (hk.1.trans b7))
      | (go_at_call 9; refine (HBX.out fr til _ (B23.out.trans (hk.1.mono B23.out.size))).mono ?_; rintro e w8 ⟨v8, l8, rfl, o8, h8, b8⟩; have hk7 := hk.1; have o78 := o7.below b8; have hk := MK.out w8 (hk7.trans (b8.mono hk7.size)); have q7 : RdE w8 v7 (betC labs rows fr til) := (by have q : RdQ w8 v7 (la ++ lb) := ⟨o78.rd, fun x hx => (List.mem_append.1 hx).elim (fun h => (RA.out.2 x h).below hk.1) (fun h => (RB.out.2 x h).below hk.1)⟩; have h9 := q.rde; rw [List.map_append, HLB.out.1, HLB.out.2, HSP.out] at h9; exact h9); have q8 : RdE w8 v8 (betC labs rows fr til) := (by have h9 := o8.rd.rde; rw [h8] at h9; exact h9); clear h8)
      | (go_at_call 10; refine (ESames_refl v7 v8 (betC labs rows fr til) _ q7 q8 (HSZ.out fr til).2 (by have := (HSZ.out fr til).1; omega)).mono ?_; rintro e w9 ⟨rfl, b9⟩; have hk := MK.out w9 (hk.1.trans (b9.mono hk.1.size)))
      | (go_at_call 14; refine (knows4_is _ (TT.out.below (B23.out.trans (hk.1.mono B23.out.size)))).mono ?_; rintro e w10 ⟨rfl, b10⟩; have hk := MK.out w10 (hk.1.trans (b10.mono hk.1.size))))
  all_goals
    go_wp2_with fail
    go_ret
    exact ⟨rfl, BB.out.trans ((B23.out.mono BB.out.size).trans (hk.1.mono (Nat.le_trans BB.out.size B23.out.size)))⟩
theorem times_walk (labs : List Lab) (rows : List CRow) (A A2 : Option Addr) (C C2 : Nat) (fr mid til : Int) (w : World) (hL : RdL w (.slice A labs.length C) labs) (hR : KRr.Rd w (.slice A2 rows.length C2) rows) (hlz : labs.length * 32 ≤ 140737488351232) (hrz : rows.length * 32 ≤ 140737488351232) (hz : ∀ x ∈ rows, entZ (entC labs x)) (hT : Tabs w) :
    Calls Tryd.prog 5 #[.agg #[.slice A labs.length C, .slice A2 rows.length C2], .int .i64 fr, .int .i64 mid, .int .i64 til] w fun e w' => e = .returned (.bool true) ∧ Below w.heap.size w w' := by
  by_cases h1 : mid < fr
  · exact walk_no labs rows A A2 C C2 fr mid til w hT (.inl h1)
  · by_cases h2 : til < mid
    · exact walk_no labs rows A A2 C C2 fr mid til w hT (.inr h2)
    · exact walk_yes labs rows A A2 C C2 fr mid til w hL hR hlz hrz hz hT h1 h2
end Go.Proofs.YtogahjeeglnogaaDoor
