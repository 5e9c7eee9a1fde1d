/-
  The reference's Put, in one word; what the law's Stays answers; the calls of both stores, side by side. Conditions: those that each theorem names.
-/
import Derived.Test.YtcohpgahffbnlaaOrc
import Derived.Deep.QuietTactic
import Derived.BigQuiet
namespace Go.Proofs.Ytcohpgahffbnlaa
open Go.RowKit Go.Icz Go.Maps Go.ChangeMaps Go.MapKept
set_option maxRecDepth 100000
set_option maxHeartbeats 8000000
variable {w w' : World} {T T' : Nat → Prop} {m c q p r : Nat} {lv cv : Value} {xs : List OV} {M N : SM} {L : OM}
theorem RPut_is (h : Rf w T r lv cv xs M) (hwf : WfS M c) (hT : ∀ k, w.heap.size ≤ k → T k) (k : ByteArray) (hk : k.size ≤ 9223372036854775807) {A1 : Option Addr} {C1 : Nat} {l : List Nat} (hv : KB.Rd w (.slice A1 l.length C1) l) (hfar : 0 < l.length → ∀ g, (Value.slice A1 l.length C1).ownBlock = some g → ¬ T g) (hlm : l.length ≤ 1048576) :
    Calls Try.prog 17 #[.pointer (some ⟨r, 0, none⟩), .string k, .slice A1 l.length C1] w fun e w' => e = .returned (.int .i64 (rputM M k l).1) ∧ ∃ lv' cv' xs', Rf w' T r lv' cv' xs' (rputM M k l).2 ∧ Tch T w w' := by
  have hTr := h.tr
  by_cases hno : okS M = false ∨ nameB k = false ∨ 1048576 < l.length ∨ (!(rfind M.L k).2 && decide (4096 ≤ M.L.length)) = true
  · refine (RPut_no h hwf k hk (by omega) hno).mono ?_
    rintro e w1 ⟨rfl, lv', cv', xs', R, t⟩
    exact ⟨rfl, lv', cv', xs', R, t.mono (fun j hj => by rw [hj]; exact hTr)⟩
  · have h1 : okS M = true := by cases he : okS M; exact absurd (.inl he) hno; rfl
    have h2 : nameB k = true := by cases he : nameB k; exact absurd (.inr (.inl he)) hno; rfl
    have h3 : ¬ 1048576 < l.length := fun h => hno (.inr (.inr (.inl h)))
    have h4 : (!(rfind M.L k).2 && decide (4096 ≤ M.L.length)) = false := by cases he : (!(rfind M.L k).2 && decide (4096 ≤ M.L.length)); rfl; exact absurd (.inr (.inr (.inr he))) hno
    have e : rputM M k l = (errS M, rputA (askS M) k l) := by
      unfold rputM
      rw [if_neg (by rw [h2]; decide), if_neg h3, h4, if_neg (by decide), if_pos h1]
    rw [e]
    cases hf : (rfind M.L k).2
    · rw [hf, Bool.not_false, Bool.true_and, decide_eq_false_iff_not] at h4
      have e2 : rputA (askS M) k l = { askS M with L := M.L.take (rfind M.L k).1 ++ [(k, l)] ++ M.L.drop (rfind M.L k).1, ch := M.ch ++ [⟨M.now, k, true⟩] } := by
        unfold rputA
        rw [if_neg (by show ¬ (rfind M.L k).2 = true; rw [hf]; decide)]
        rfl
      rw [e2]
      exact RPut_ins h hwf hT k hk hv hfar hlm h2 h1 hf (by omega)
    · have e2 : rputA (askS M) k l = { askS M with L := M.L.set (rfind M.L k).1 (k, l) } := by
        unfold rputA
        rw [if_pos (by show (rfind M.L k).2 = true; rw [hf])]
        rfl
      rw [e2]
      exact RPut_set h hwf hT k hk hv hfar hlm h2 h1 hf
/-- Lent bytes are as they were. -/
theorem Stays_is {g C B : Nat} {l : List Nat} (hx : KB.Own w B (.slice (some ⟨g, 0, none⟩) (l.length + 2) C) (l ++ [77, 78])) {u : Value} (hu : KB.Rd w u l) (hlen : l.length ≤ 1048576) :
    Calls Try.prog 18 #[.slice (some ⟨g, 0, none⟩) l.length C, u] w fun e w' => e = .returned (.bool true) ∧ Below w.heap.size w w' := by
  have hr := hx.rd
  have hr2 : KB.Rd w (.slice (some ⟨g, 0, none⟩) l.length C) l := Kd.Rd.front (K := KB) hr
  have c2 := fun n => conv_kb (show KB.Rd (w.drewN n) u l from hu)
  have c1 := fun n => conv_kb (show KB.Rd (w.drewN n) (.slice (some ⟨g, 0, none⟩) l.length C) l from hr2)
  obtain ⟨b, off, he, hb, hcell⟩ := hr.at (j := l.length) (by simp)
  obtain ⟨b', off', he', hb', hcell'⟩ := hr.at (j := l.length + 1) (by simp)
  injection he with he
  injection he with h1 h2 _
  injection he' with he'
  injection he' with h1' h2' _
  subst h1 h2 h1' h2'
  have k1 : w.cell? ⟨g, l.length, none⟩ = some (.int .u8 77) := by
    have := hcell 0 (.int .u8 77) (by decide) (by simp [KB])
    simpa [KB] using this
  have k2 : w.cell? ⟨g, l.length + 1, none⟩ = some (.int .u8 78) := by
    have := hcell' 0 (.int .u8 78) (by decide) (by simp [KB])
    simpa [KB] using this
  obtain ⟨A, c, rfl, hc, _⟩ := id hu
  have h0 : l.length + 2 ≤ C := by
    obtain ⟨A2, c2, hv, hc2⟩ := hr.form
    injection hv with _ _ e
    rw [e]
    simpa using hc2
  clear hcell hcell' hr hr2 hx hu hc
  go_enter Try.func18, Try.ntmps18
  go_wp2_with fail
  go_quiet (fail)
  go_wp2
  go_ret
  exact ⟨rfl, rfl, rfl, rfl, Nat.le_refl _, fun _ _ => rfl⟩
end Go.Proofs.Ytcohpgahffbnlaa
