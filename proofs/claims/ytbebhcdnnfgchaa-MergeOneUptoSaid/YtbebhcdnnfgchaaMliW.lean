/-
  The law MergeLimits, walked. Conditions: the arguments can be read; sizes as each theorem names.
-/
import Derived.Test.YtbebhcdnnfgchaaMgopn
import Derived.Laws.Slices
namespace Go.Icz
open Go.RowKit
/-- The answers of bare rows. -/
def ansE (nb : Bool) (L : List (List Ent)) : List Ent := outs kyE [] (strm kyE nb L)
theorem SzR.of_bare {R R' : List SR} (h : SzR R) (e : bare R' = bare R) : SzR R' := by
  have hl : R'.length = R.length := by have := congrArg List.length e; simpa [bare] using this
  have ht : ∀ Q : List SR, totR (Q.map (·.l)) = totR (bare Q) := fun Q => by unfold totR bare; rw [List.map_map, List.map_map]; congr 1; apply List.map_congr_left; intro x _; simp
  exact ⟨by rw [hl]; exact h.1, by rw [ht, e, ← ht]; exact h.2⟩
end Go.Icz
namespace Go.Proofs.Ytbebhcdnnfgchaa
open Go.RowKit Go.Icz
theorem ans_bare (nb : Bool) (R : List SR) : (outs kyV [] (strm kyV nb (rowsOf R))).map (·.1) = ansE nb (bare R) := by
  unfold ansE
  have e : bare R = (rowsOf R).map (List.map (·.1)) := by unfold bare rowsOf; rw [List.map_map]; rfl
  rw [e, strm_map kyV kyE (·.1) (fun _ => rfl), outs_map kyV kyE (·.1) (fun _ => rfl)]
/-- merge.All of rows in memory, by their bare entries. -/
theorem GAll_bare (v : Value) (nb : Bool) (most : Int) (R : List SR) (w : World) (hR : RdR w v R) (hz : SzR R) :
    Calls Try.prog 20 #[v, .bool nb, .int .i64 most] w fun e w' => ∃ u M, e = .returned u ∧ OwE w' w.heap.size u M ∧ M.map (·.1) = takeM most (ansE nb (bare R)) ∧ SzE M ∧ Below w.heap.size w w' := by
  refine (GAll_is v nb most R w hR hz.1 hz.2).mono fun e w' ⟨u, M, h1, h2, h3, h4⟩ => ?_
  rw [ans_bare] at h3
  refine ⟨u, M, h1, h2, h3, ?_, h4⟩
  have hle : (takeM most (ansE nb (bare R))).length ≤ (ansE nb (bare R)).length := by
    unfold takeM
    split
    · exact Nat.le_refl _
    · rw [List.length_take]; omega
  have hS := strm_length kyV nb _ (rowsOf R) rfl
  have hO := outs_le kyV [] (strm kyV nb (rowsOf R))
  have hA : (ansE nb (bare R)).length = (outs kyV [] (strm kyV nb (rowsOf R))).length := by rw [← ans_bare, List.length_map]
  have hml : M.length = (takeM most (ansE nb (bare R))).length := by rw [← h3, List.length_map]
  have htot : totR (rowsOf R) ≤ 1099511627776 := hz.2
  refine ⟨by omega, fun x hx => ?_⟩
  have hx1 : x.1 ∈ takeM most (ansE nb (bare R)) := by rw [← h3]; exact List.mem_map.2 ⟨x, hx, rfl⟩
  have hx2 : x.1 ∈ ansE nb (bare R) := by
    unfold takeM at hx1
    split at hx1
    · exact hx1
    · exact List.mem_of_mem_take hx1
  have mem : ∀ (met : List Int) (S : List Ent) y, y ∈ outs kyE met S → y ∈ S := by
    intro met S
    induction S generalizing met with
    | nil => intro y hy; cases hy
    | cons z S ih =>
      intro y hy
      rw [outs] at hy
      split at hy
      · exact List.mem_cons_of_mem _ (ih _ y hy)
      · rcases List.mem_cons.1 hy with rfl | hy
        · exact List.mem_cons_self ..
        · exact List.mem_cons_of_mem _ (ih _ y hy)
  obtain ⟨r, hr, hxr⟩ := (strm_mem kyE nb _ (bare R) rfl x.1).1 (mem _ _ _ hx2)
  exact (hR.wf r hr x.1 hxr).2
theorem mm_bd (most : Int) : 1 ≤ wrap64 (1 + (wrap64 (most.tmod 30 + 30)).tmod 30) ∧ wrap64 (1 + (wrap64 (most.tmod 30 + 30)).tmod 30) ≤ 30 := by
  have h1 : -30 < most.tmod 30 := by
    have := Int.tmod_lt_of_pos (-most) (b := 30) (by decide)
    rw [Int.neg_tmod] at this
    omega
  have h2 : most.tmod 30 < 30 := Int.tmod_lt_of_pos most (by decide)
  generalize most.tmod 30 = t at *
  have e1 : wrap64 (t + 30) = t + 30 := by unfold wrap64; omega
  rw [e1, Int.tmod_eq_emod_of_nonneg (by omega)]
  have e2 : wrap64 (1 + (t + 30) % 30) = 1 + (t + 30) % 30 := by unfold wrap64; omega
  rw [e2]
  omega
theorem front_rd {w : World} {A : Option Addr} {n c : Nat} {l : List EV} (h : RdE w (.slice A n c) l) (k : Nat) (hk : k ≤ l.length) : RdE w (.slice A k c) (l.take k) := by
  have e : l = l.take k ++ l.drop k := (List.take_append_drop k l).symm
  refine ⟨?_, fun x hx => h.2 x (List.mem_of_mem_take hx)⟩
  have h1 := h.1
  rw [e] at h1
  have h2 := Kd.Rd.front h1
  have hl : (l.take k).length = k := by rw [List.length_take]; omega
  rwa [hl] at h2
set_option maxRecDepth 100000 in
set_option maxHeartbeats 8000000 in
theorem limits_walk (v : Value) (nb : Bool) (most : Int) (R : List SR) (W : World) (hR : RdR W v R) (hz : SzR R) (hm : wfI most) :
    Calls Try.prog 10 #[v, .bool nb, .int .i64 most] W fun e w' => e = .returned (.bool true) ∧ Below W.heap.size W w' := by
  have C1 := fun w (hb : Below W.heap.size W w) => LRows_is v R w (hR.below hb) hz
  have hwf := hR.wf
  have C2 := fun u (R1 : List SR) B w (k : Int) (h : OwR w B u R1) (e : bare R1 = bare R) => GAll_bare u nb k R1 w (h.rd (by rw [e]; exact hwf)) (hz.of_bare e)
  have C6 := fun u1 u2 (m1 m2 : List EV) w (h1 : RdE w u1 m1) (h2 : RdE w u2 m2) hm hs => ESames_refl u1 u2 m1 m2 w h1 h2 hm hs
  obtain ⟨A0, c0, hv, _⟩ := hR.1.form
  subst hv
  generalize hvv : (Value.slice A0 R.length c0) = v at *
  have HVV := hid hvv
  have hb0 := Below.refl W.heap.size W
  have D1 := C1 W hb0
  clear hvv hR
  have hwm : -9223372036854775808 ≤ most ∧ most ≤ 9223372036854775807 := by
    unfold wfI at hm
    have e1 : IntKind.i64.min = -9223372036854775808 := by decide
    have e2 : IntKind.i64.max = 9223372036854775807 := by decide
    simp only [Lit.wf, e1, e2] at hm
    simpa using hm
  clear hm
  go_enter Try.func10, Try.ntmps10
  go_wp2_with fail
  have hmm := mm_bd most
  generalize hk : wrap64 (1 + (wrap64 (most.tmod 30 + 30)).tmod 30) = mm at *
  clear hk hwm
  obtain ⟨k0, rfl⟩ : ∃ k : Nat, mm = (k : Int) := ⟨mm.toNat, by omega⟩
  refine D1.mono ?_
  rintro e w1 ⟨u1, R1, rfl, o1, hr1, b1⟩
  have HR1 := hid hr1
  have D2 := C2 u1 R1 _ w1 0 o1 hr1
  clear hr1 D1
  have t1 := True.intro
  have t2 := True.intro
  have t3 := True.intro
  go_wp2_with (first
    | (clear t1; go_at_call 20; refine D2.mono ?_; rintro e w2 ⟨u2, M1, rfl, o2, hm2, s2, b2⟩; have HM1 := hid hm2; have bw2 := b1.trans (b2.mono b1.size); have D3 := C1 w2 bw2; clear D2 C1 hm2)
    | (go_at_call 11; refine D3.mono ?_; rintro e w3 ⟨u3, R3, rfl, o3, hr3, b3⟩; have HR3 := hid hr3; have bw3 := bw2.trans (b3.mono bw2.size); have D4 := C2 u3 R3 _ w3 k0 o3 hr3; clear D3 hr3 C2)
    | (go_at_call 20; refine D4.mono ?_; rintro e w4 ⟨u4, M2, rfl, o4, hm4, s4, b4⟩; have HM2 := hid hm4; have bw4 := bw3.trans (b4.mono bw3.size); have q2 := o2.below (b3.trans (b4.mono b3.size)); obtain ⟨A2, c2, rfl, hc2⟩ := o2.1.rd.form; clear D4 hm4))
  have hkk : (min (k0 : Int) (M1.length : Int)).toNat = min k0 M1.length := by omega
  generalize (min (k0 : Int) (M1.length : Int)).toNat = kk at *
  have hmap : M2.map (·.1) = (M1.take kk).map (·.1) := by
    rw [HM2.out, HR3.out, List.map_take, HM1.out, HR1.out]
    unfold takeM
    have hne : ¬ ((k0 : Nat) : Int) = 0 := by omega
    rw [if_neg hne, if_pos rfl, Int.toNat_natCast]
    have hl : M1.length = (ansE nb (bare R)).length := by
      have := congrArg List.length HM1.out
      rw [List.length_map, HR1.out] at this
      unfold takeM at this
      rwa [if_pos rfl] at this
    rw [hkk, hl]
    by_cases h : k0 ≤ (ansE nb (bare R)).length
    · rw [Nat.min_eq_left h]
    · rw [List.take_of_length_le (by omega), List.take_of_length_le (by omega)]
  have F := C6 u4 (.slice A2 kk c2) M2 (M1.take kk) w4 o4.rd (front_rd q2.rd kk (by omega)) hmap s4
  refine F.mono ?_
  rintro e w5 ⟨rfl, b5⟩
  have bw5 := bw4.trans (b5.mono bw4.size)
  clear hmap hkk F C6
  go_wp2_with (go_at_call 14; refine (knows_is _).mono ?_; rintro e w9 ⟨rfl, b9⟩)
  go_ret
  exact ⟨rfl, bw5.trans (b9.mono bw5.size)⟩
end Go.Proofs.Ytbebhcdnnfgchaa
