/-
  The closures that a call carries out, and how they are made. Conditions: those that each theorem names.
-/
import Derived.Test.YtcohpgahffbnlaaOm8
import Derived.Test.YtcohpgahffbnlaaOm3
namespace Go.Proofs.Ytcohpgahffbnlaa
open Go.RowKit Go.Icz Go.Maps Go.ChangeMaps Go.MapKept
set_option maxRecDepth 100000
set_option maxHeartbeats 4000000
variable {w : World} {T : Nat → Prop} {q p bO c : Nat} {cv : Value} {M : SM}
theorem noting1_is (R : Ro w T q p bO cv (keptS M) M) (hT : ∀ k, w.heap.size ≤ k → T k) (hwf : WfS M c) (hc : c + 1 ≤ 4194304) (k : ByteArray) (hk : k.size ≤ 64) (b : Bool) {a0 a1 a2 : Nat} (h0 : w.cell? ⟨a0, 0, none⟩ = some (.pointer (some ⟨p, 0, none⟩))) (h1 : w.cell? ⟨a1, 0, none⟩ = some (.string k)) (h2 : w.cell? ⟨a2, 0, none⟩ = some (.bool b)) :
    Calls Try.prog 54 #[.pointer (some ⟨a0, 0, none⟩), .pointer (some ⟨a1, 0, none⟩), .pointer (some ⟨a2, 0, none⟩)] w fun e w' => e = .returned (.tuple #[]) ∧ Fg w T q p bO cv (keptS (noteS M k b)) (noteS M k b) w' := by
  have hH : ∀ n, Calls Try.prog 52 #[.pointer (some ⟨p, 0, none⟩), .string k] (w.drewN n) fun e w' => e = .returned (.bool (alook M.L k).isSome) ∧ w' = w.drewN n := fun n => has_is (R.below (below_drewN _ _ _)) k (by unfold maxLen; omega)
  by_cases hb : (alook M.L k).isSome = b
  · have HN : Hid (noteS M k b = M) := hid (by unfold noteS; rw [if_pos hb])
    have HR : Hid (∀ n, Fg w T q p bO cv (keptS M) M (w.drewN n)) := hid (fun n => ⟨⟨cv, R.below (below_drewN _ _ _), fun g hg => .inl hg⟩, Tch.of_below (below_drewN _ _ _)⟩)
    rw [hb] at hH
    rw [HN.out]
    clear R hb
    go_enter Try.func54, Try.ntmps54
    go_wp2_with fail
    cases b
    · go_quiet ((go_at_call 52; refine (hH _).mono ?_; rintro e w1 ⟨rfl, rfl⟩; exact ⟨rfl, _, rfl⟩))
      go_wp2
      go_end0
      exact ⟨rfl, HR.out _⟩
    · go_quiet ((go_at_call 52; refine (hH _).mono ?_; rintro e w1 ⟨rfl, rfl⟩; exact ⟨rfl, _, rfl⟩))
      go_wp2
      go_end0
      exact ⟨rfl, HR.out _⟩
  · have HN : Hid (noteS M k b = { M with ch := M.ch ++ [⟨M.now, k, b⟩] }) := hid (by unfold noteS; rw [if_neg hb])
    have HC : ∀ n, Calls Try.prog 55 #[.pointer (some ⟨p, 0, none⟩), .string k, .bool b] (w.drewN n) fun e w' => e = .returned (.tuple #[]) ∧ Hid (Fg w T q p bO cv (keptS { M with ch := M.ch ++ [⟨M.now, k, b⟩] }) { M with ch := M.ch ++ [⟨M.now, k, b⟩] } w') := fun n => by
      refine (note_is (R.below (below_drewN _ _ _)) (fun j hj => hT j hj) hwf hc k hk b).mono ?_
      rintro e w' ⟨rfl, h1, h2⟩
      exact ⟨rfl, hid ⟨h1, (tch_drewN _ _ _).trans h2⟩⟩
    have hb2 : (alook M.L k).isSome = !b := by
      cases h : (alook M.L k).isSome <;> cases b <;> simp_all
    rw [hb2] at hH
    rw [HN.out]
    clear R hb hb2
    go_enter Try.func54, Try.ntmps54
    go_wp2_with fail
    cases b
    · go_quiet ((go_at_call 52; refine (hH _).mono ?_; rintro e w1 ⟨rfl, rfl⟩; exact ⟨rfl, _, rfl⟩))
      go_wp2_with (go_at_call 55; refine (HC _).mono ?_; rintro e w2 ⟨rfl, h3⟩)
      go_end0
      exact ⟨rfl, h3.out⟩
    · go_quiet ((go_at_call 52; refine (hH _).mono ?_; rintro e w1 ⟨rfl, rfl⟩; exact ⟨rfl, _, rfl⟩))
      go_wp2_with (go_at_call 55; refine (HC _).mono ?_; rintro e w2 ⟨rfl, h3⟩)
      go_end0
      exact ⟨rfl, h3.out⟩
/-- The objects turned, the changes as they are. -/
theorem Ro.setO {w w' : World} {X : List Chg} {L : OM} (R : Ro w T q p bO cv X M) (t : Tch (· = bO) w w') (h : Ob w' T bO L) : Ro w' T q p bO cv X { M with L := L } := by
  obtain ⟨es, ck, hm⟩ := R.ob.row
  have hne : ∀ {j cs ty z}, w.heap[j]? = some (.cells cs ty z) → j ≠ bO := fun h => map_ne h hm
  exact ⟨t.row R.q_ (hne R.q_), t.row R.p_ (hne R.p_), h, R.ch.touch t (fun j hj hg => by
    obtain ⟨cur, hc⟩ := R.ch.row hg
    exact hne hc hj), R.tq, R.tp, R.tb, R.tc⟩
theorem dropping1_is {X : List Chg} (R : Ro w T q p bO cv X M) (hn : (akeys M.L).Nodup) (k : ByteArray) (hk : k.size ≤ 64) {b0 b1 : Nat} (h0 : w.cell? ⟨b0, 0, none⟩ = some (.pointer (some ⟨p, 0, none⟩))) (h1 : w.cell? ⟨b1, 0, none⟩ = some (.string k)) :
    Calls Try.prog 63 #[.pointer (some ⟨b0, 0, none⟩), .pointer (some ⟨b1, 0, none⟩)] w fun e w' => e = .returned (.tuple #[]) ∧ Ro w' T q p bO cv X { M with L := adel k M.L } ∧ Tch (· = bO) w w' := by
  have p0 : w.cell? ⟨p, 0, none⟩ = some (.map (some bO)) := held_cell R.p_ rfl
  have Rd := R.below (Below.refl _ w).drew
  obtain ⟨w2, hrun, hO, t⟩ := Rd.ob.del hn k (by unfold maxLen; omega) 0
  have HR : Hid (Ro w2 T q p bO cv X { M with L := adel k M.L } ∧ Tch (· = bO) w w2) := hid ⟨Rd.setO t hO, (Tch.drew _ w).trans t⟩
  clear R Rd hO t
  go_enter Try.func63, Try.ntmps63
  go_wp2_with fail
  go_region
  all_goals go_wp2
  all_goals go_end0
  all_goals exact ⟨rfl, HR.out⟩
theorem holding1_is {X : List Chg} (R : Ro w T q p bO cv X M) (hT : ∀ k, w.heap.size ≤ k → T k) (hn : (akeys M.L).Nodup) (hl : M.L.length ≤ 4096) (k : ByteArray) (hk : k.size ≤ 64) {v : Value} {l : List Nat} (hv : KB.Rd w v l) (hlen : l.length ≤ 1048576) {b0 b1 b2 : Nat} (h0 : w.cell? ⟨b0, 0, none⟩ = some v) (h1 : w.cell? ⟨b1, 0, none⟩ = some (.pointer (some ⟨p, 0, none⟩))) (h2 : w.cell? ⟨b2, 0, none⟩ = some (.string k)) (l0 : b0 < w.heap.size) (l1 : b1 < w.heap.size) (l2 : b2 < w.heap.size) :
    Calls Try.prog 56 #[.pointer (some ⟨b0, 0, none⟩), .pointer (some ⟨b1, 0, none⟩), .pointer (some ⟨b2, 0, none⟩)] w fun e w' => e = .returned (.tuple #[]) ∧ Ro w' T q p bO cv X { M with L := aput M.L k l } ∧ Tch (· = bO) w w' := by
  have p0 : w.cell? ⟨p, 0, none⟩ = some (.map (some bO)) := held_cell R.p_ rfl
  have hpl : p < w.heap.size := row_lt R.p_
  obtain ⟨es, ck, hm⟩ := R.ob.row
  have cells : ∀ w1, Tch (· = bO) w w1 → w1.cell? ⟨b0, 0, none⟩ = some v ∧ w1.cell? ⟨b1, 0, none⟩ = some (.pointer (some ⟨p, 0, none⟩)) ∧ w1.cell? ⟨b2, 0, none⟩ = some (.string k) ∧ w1.cell? ⟨p, 0, none⟩ = some (.map (some bO)) := fun w1 t => by
    have hne : ∀ {j : Nat} {u : Value}, w.cell? ⟨j, 0, none⟩ = some u → j ≠ bO := fun h e => by
      unfold World.cell? at h
      simp only [e, hm] at h
      cases h
    exact ⟨(t.cell l0 (hne h0)).trans h0, (t.cell l1 (hne h1)).trans h1, (t.cell l2 (hne h2)).trans h2, (t.cell hpl (hne p0)).trans p0⟩
  have hC : ∀ w1, Calls Try.prog 57 #[.string k] w1 fun e w' => e = .returned (.string k) ∧ Below w1.heap.size w1 w' := fun w1 => sClone_is k (by omega) w1
  have hB : ∀ w1, Hid (Below w.heap.size w w1) → Calls Try.prog 48 #[v] w1 fun e w' => ∃ u, e = .returned u ∧ Hid (KB.Own w' w.heap.size u l) ∧ Below w1.heap.size w1 w' ∧ ∃ A n c, u = .slice A n c := fun w1 hb => by
    refine (bClone_is v l w1 (hv.below hb.out) (by omega)).mono ?_
    rintro e w' ⟨u, rfl, o, b⟩
    obtain ⟨A, c, hu, _⟩ := o.rd.form
    exact ⟨u, rfl, hid (o.mono hb.out.size), b, A, _, c, hu⟩
  have hPut : ∀ w1 u, Hid (Below w.heap.size w w1) → Hid (KB.Own w1 w.heap.size u l) → ∃ w3, (Instr.mapUpdate 37 (.map (some bO)) (.string k) u).run Try.prog w1 = .ok () w3 ∧ (w3.cell? ⟨b0, 0, none⟩ = some v ∧ w3.cell? ⟨b1, 0, none⟩ = some (.pointer (some ⟨p, 0, none⟩)) ∧ w3.cell? ⟨b2, 0, none⟩ = some (.string k) ∧ w3.cell? ⟨p, 0, none⟩ = some (.map (some bO))) ∧ Hid (Ro w3 T q p bO cv X { M with L := aput M.L k l } ∧ Tch (· = bO) w w3) := fun w1 u hb o => by
    have R1 := R.below hb.out
    obtain ⟨w3, hrun, hO, t⟩ := R1.ob.put hn (by unfold maxLen; omega) k (by unfold maxLen; omega) (o.out.mono (Nat.zero_le _)) (fun g hg => hT g (o.out.lt g hg).1)
    have t3 := (Tch.of_below (S := (· = bO)) hb.out).trans t
    exact ⟨w3, hrun, cells w3 t3, hid ⟨R1.setO t hO, t3⟩⟩
  obtain ⟨A, cp, hvv, _⟩ := hv.form
  subst hvv
  have hbb : Hid (Below w.heap.size w w.drew) := hid (Below.refl _ _).drew
  have HCL := hid (fun w1 (hb : Hid (Below w.heap.size w w1)) => cells w1 (Tch.of_below hb.out))
  have hkk := HCL.out _ hbb
  have tS := True.intro
  have tB := True.intro
  clear R hv hm cells hT hn
  go_enter Try.func56, Try.ntmps56
  go_wp2_with fail
  go_region_held3 (fun w' => w'.cell? ⟨b0, 0, none⟩ = some (.slice A l.length cp) ∧ w'.cell? ⟨b1, 0, none⟩ = some (.pointer (some ⟨p, 0, none⟩)) ∧ w'.cell? ⟨b2, 0, none⟩ = some (.string k) ∧ w'.cell? ⟨p, 0, none⟩ = some (.map (some bO))) (first | exact hk3 | exact hkk) (first
    | (have tB2 := tB; go_at_call 57; refine (hC _).mono ?_; rintro e w1 ⟨rfl, b1⟩; have hbb := hid (hbb.out.trans (b1.mono hbb.out.size)); have hkk := HCL.out _ hbb; clear tS)
    | (go_at_call 57; refine (hC _).mono ?_; rintro e w1 ⟨rfl, b1⟩; have hbb := hid (hbb.out.trans (b1.mono hbb.out.size)); have hkk := HCL.out _ hbb; obtain ⟨w3, hup, hk3, HF⟩ := hPut _ _ hbb (hid (o5.out.below b1)); clear tS)
    | (have tS2 := tS; go_at_call 48; refine (hB _ hbb).mono ?_; rintro e w1 ⟨u, rfl, o5, b1, A5, n5, c5, rfl⟩; have hbb := hid (hbb.out.trans (b1.mono hbb.out.size)); have hkk := HCL.out _ hbb; clear tB)
    | (go_at_call 48; refine (hB _ hbb).mono ?_; rintro e w1 ⟨u, rfl, o5, b1, A5, n5, c5, rfl⟩; have hbb := hid (hbb.out.trans (b1.mono hbb.out.size)); have hkk := HCL.out _ hbb; obtain ⟨w3, hup, hk3, HF⟩ := hPut _ _ hbb o5; clear tB))
  all_goals go_end0
  all_goals exact ⟨rfl, HF.out⟩
end Go.Proofs.Ytcohpgahffbnlaa
