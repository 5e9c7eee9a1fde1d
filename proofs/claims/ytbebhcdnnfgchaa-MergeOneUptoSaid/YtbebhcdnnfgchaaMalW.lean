/-
  The law MergeAll, walked. Conditions: the arguments can be read; sizes as each theorem names.
-/
import Derived.Test.YtbebhcdnnfgchaaMra
namespace Go.Proofs.Ytbebhcdnnfgchaa
open Go.RowKit Go.Icz
/-- The reference's All of rows in memory, by their bare entries. -/
theorem RAll_bare (v : Value) (nb : Bool) (most : Int) (R : List SR) (w : World) (hR : RdR w v R) (hz : SzR R) :
    Calls Try.prog 22 #[v, .bool nb, .int .i64 most] w fun e w' => ∃ u M, e = .returned u ∧ RdE w' u M ∧ M.map (·.1) = takeM most (ansE nb (bare R)) ∧ Below w.heap.size w w' := by
  refine (RAll_is v nb most R w hR hz).mono fun e w' ⟨u, M, h1, h2, h3, h4⟩ => ?_
  refine ⟨u, M, h1, h2, ?_, h4⟩
  rw [h3, ← takeM_map, ans_bare]
set_option maxRecDepth 100000 in
set_option maxHeartbeats 8000000 in
theorem all_walk (v : Value) (nb : Bool) (most : Int) (R : List SR) (W : World) (hR : RdR W v R) (hz : SzR R) :
    Calls Try.prog 4 #[v, .bool nb, .int .i64 most] W fun e w' => e = .returned (.bool true) ∧ Below W.heap.size W w' := by
  have C1 := fun w (hb : Below W.heap.size W w) => LRows_is v R w (hR.below hb) hz
  have hwf := hR.wf
  have C2 := fun u (R1 : List SR) B w (h : OwR w B u R1) (e : bare R1 = bare R) => GAll_bare u nb most R1 w (h.rd (by rw [e]; exact hwf)) (hz.of_bare e)
  have C3 := fun w (hb : Below W.heap.size W w) => RAll_bare v nb most R w (hR.below hb) hz
  have C6 := fun u1 u2 (m1 m2 : List EV) w (h1 : RdE w u1 m1) (h2 : RdE w u2 m2) hm hs => ESames_refl u1 u2 m1 m2 w h1 h2 hm hs
  have C7 := fun u B (m : List EV) w (h : OwE w B u m) (hs : SzE m) => Spoil_is u B m w h hs
  have HR := fun w (hb : Below W.heap.size W w) => hR.below hb
  have HSZ : ∀ r ∈ R, SzE r.l := fun r hr => ⟨hz.one hr, fun x hx => ((hR.2 r hr).2 x hx).2.2⟩
  have hzl := hz.1
  obtain ⟨A0, c0, hv, _⟩ := hR.1.form
  subst hv
  have D1 := C1 W (Below.refl _ _)
  have t1 := True.intro
  clear hR
  go_enter Try.func4, Try.ntmps4
  go_wp2_with (first
    | (go_at_call 11; refine D1.mono ?_; rintro e w1 ⟨u1, R1, rfl, o1, hr1, b1⟩; have HR1 := hid hr1; have D2 := C2 u1 R1 _ w1 o1 hr1; clear D1 C1 C2 hr1; obtain ⟨A1, c1, rfl, _⟩ := o1.1.rd.form)
    | (go_at_call 20; refine D2.mono ?_; rintro e w2 ⟨u2, M1, rfl, o2, hm2, s2, b2⟩; have HM1 := hid hm2; have bw2 := b1.trans (b2.mono b1.size); have D3 := C3 w2 bw2; clear D2 C3 hm2)
    | (go_at_call 22; refine D3.mono ?_; rintro e w3 ⟨u3, M3, rfl, o3, hm3, b3⟩; have HM3 := hid hm3; have q2 := o2.below b3; have D4 := C6 u2 u3 M1 M3 w3 q2.rd o3 (by rw [HM1.out, HM3.out, HR1.out]) s2; clear D3 hm3)
    | (clear t1; go_at_call 21; refine D4.mono ?_; rintro e w4 ⟨rfl, b4⟩; have D5 := C7 u2 w1.heap.size M1 w4 (q2.below b4) s2; clear D4 C7)
    | (go_at_call 15; refine D5.mono ?_; rintro e w5 ⟨rfl, lt5⟩; have b15 : Below w1.heap.size w1 w5 := (b2.trans (b3.trans (b4.mono b3.size) |>.mono b2.size)).trans (lt5.below (by have := b2.size; have := b3.size; have := b4.size; omega)); have bw5 := b1.trans (b15.mono b1.size); clear D5))
  have X5 := o1.below b15
  have Y5 := HR w5 bw5
  clear o1 o2 o3 q2 HR lt5 HM1 HM3 bw2
  have hlR : R1.length = R.length := by have := congrArg List.length HR1.out; simpa [bare] using this
  have hl1 : R1.length ≤ 1099511627776 := by omega
  have HLR := hid hlR
  clear hlR
  go_loopw [9, 10] (fun ov iv ws => ∃ i : Nat, ov = .bool true ∧ iv = .int .i64 i ∧ i ≤ R1.length ∧ Below w5.heap.size w5 ws) (fun _ iv _ => R1.length - (intOf iv).toNat)
  case atStart => exact ⟨0, rfl, rfl, by omega, Below.refl _ _⟩
  case round =>
    obtain ⟨i, rfl, rfl, hi, hbs⟩ := hrel
    by_cases hLt : i < R1.length
    · have hLt2 : i < R.length := by have := HLR.out; omega
      have hil : (i : Int) < (R1.length : Int) := by omega
      have hil2 : (i : Int) < (R.length : Int) := by omega
      have HIL := hid hLt
      obtain ⟨b, off, hA, hb, hc1⟩ := X5.1.rd.at hLt
      subst hA
      obtain ⟨b', off', hA, hb', hc2⟩ := Y5.1.at hLt2
      subst hA
      have q1 : ∀ w', Below w5.heap.size w5 w' → w'.cell? ⟨b, off + i, none⟩ = some (.slice R1[i].A R1[i].l.length R1[i].c) := fun w' hw => by
        have := (hw.cell (p := ⟨b, off + (i * 1 + 0), none⟩) hb).trans (hc1 0 _ (by decide) rfl)
        rwa [Nat.mul_one, Nat.add_zero] at this
      have q2 : ∀ w', Below w5.heap.size w5 w' → w'.cell? ⟨b', off' + i, none⟩ = some (.slice R[i].A R[i].l.length R[i].c) := fun w' hw => by
        have := (hw.cell (p := ⟨b', off' + (i * 1 + 0), none⟩) hb').trans (hc2 0 _ (by decide) rfl)
        rwa [Nat.mul_one, Nat.add_zero] at this
      have hm : R1[i].l.map (·.1) = R[i].l.map (·.1) := by
        have h1 : (bare R1)[i]? = (bare R)[i]? := by rw [HR1.out]
        unfold bare at h1
        rw [List.getElem?_map, List.getElem?_map, List.getElem?_eq_getElem hLt, List.getElem?_eq_getElem hLt2] at h1
        exact Option.some.inj h1
      have hO := fun w' (hw : Below w5.heap.size w5 w') => C6 _ _ R1[i].l R[i].l w' ((X5.2 _ (List.getElem_mem hLt)).rd.below hw) ((Y5.rdE (List.getElem_mem hLt2)).below hw) hm ((HSZ _ (List.getElem_mem hLt2)).of_map hm)
      clear hm
      generalize R1[i] = r1 at *
      generalize R[i] = r2 at *
      have mkS : ∀ w', Below w5.heap.size w5 w' → Below w5.heap.size w5 w' ∧ w'.cell? ⟨b, off + i, none⟩ = some (.slice r1.A r1.l.length r1.c) ∧ w'.cell? ⟨b', off' + i, none⟩ = some (.slice r2.A r2.l.length r2.c) := fun w' hw => ⟨hw, q1 w' hw, q2 w' hw⟩
      have hk := mkS wr.drew hbs.drew
      clear q1 q2 hc1 hc2 X5 Y5
      go_wp2_with fail
      go_region_held3 (fun w' => Below w5.heap.size w5 w' ∧ w'.cell? ⟨b, off + i, none⟩ = some (.slice r1.A r1.l.length r1.c) ∧ w'.cell? ⟨b', off' + i, none⟩ = some (.slice r2.A r2.l.length r2.c)) (exact hk)
        (first | (go_at_call 21; refine (hO _ hk.1).mono ?_; rintro e w6 ⟨rfl, b6⟩; have hk := mkS _ (hk.1.trans (b6.mono hk.1.size))))
      go_wp2_with fail
      go_roundw
      case rel => exact ⟨i + 1, rfl, by go_num, HIL.out, hk.1⟩
      case measure => have := HIL.out; simp [intOf]; omega
    · have hnI : ¬ (i : Int) < (R1.length : Int) := by omega
      clear X5 Y5
      go_wp2_with (go_at_call 14; refine (knows_is _).mono ?_; rintro e w9 ⟨rfl, b9⟩)
      go_ret
      exact ⟨rfl, bw5.trans ((hbs.trans (b9.mono hbs.size)).mono bw5.size)⟩
end Go.Proofs.Ytbebhcdnnfgchaa
