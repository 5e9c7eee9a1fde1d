/-
  A file behind a crash: its pieces, one by one, kept or lost. Conditions: those that the theorem names.
-/
import Derived.Test.YtjpneohachkheaaSm3
namespace Go.Icz
open Go.RowKit
theorem zero_len {l : List Nat} {i j : Nat} (h1 : i ≤ j) (h2 : j ≤ l.length) : (zero l i j).length = l.length := by
  unfold zero
  simp
  omega
theorem cgo_step (n : Nat) (ps : List Nat) (a e : Nat) (b : List Nat) (k : List Bool) : cgo (n :: ps) a e b k = if k.headD false then cgo ps (a + n) (a + n) b k.tail else cgo ps (a + n) e (zero b a (a + n)) k.tail := rfl
/-- A round of the pieces. -/
structure CrS (S : Nat → Prop) (w0 wr : World) (x : FV) (kx : Nat) (k : List Bool) (j a e : Nat) : Prop where
  jl : j ≤ x.m.ps.length
  ex : ∃ b k', Fil wr ⟨x.g, x.bv, x.pv, ⟨b, x.m.s, x.m.ps⟩⟩ ∧ Keep S wr kx k' ∧ cgo (x.m.ps.drop j) a e b k' = cgo x.m.ps x.m.s x.m.s x.m.b k ∧ b.length = x.m.b.length
  sm : a + (x.m.ps.drop j).sum = x.m.b.length
  ea : e ≤ a
  to : Tch (fun y => FootF x y ∨ y = kx) w0 wr
end Go.Icz
namespace Go.Proofs.Ytjpneohachkheaa
open Go.RowKit Go.Icz Go.Maps Go.ChangeMaps Go.MapKept
set_option maxRecDepth 100000
theorem own_form {w : World} {v : Value} {l : List Nat} (h : KB.Own w 0 v l) : ∃ A c, v = .slice A l.length c ∧ l.length ≤ c ∧ (A = none → c = 0) ∧ ∀ a, A = some a → ∃ g, a = ⟨g, 0, none⟩ := by
  rcases h.2 with ⟨hv, h0⟩ | ⟨g', cap, cur, hv, hg, hh, h1, h2, h3, h4⟩
  · exact ⟨none, 0, by rw [hv, h0], by omega, fun _ => rfl, fun a ha => by cases ha⟩
  · exact ⟨_, cap, hv, h1, fun h => (by cases h), fun a ha => ⟨g', by injection ha with ha; exact ha.symm⟩⟩
theorem fcrash_is {S : Nat → Prop} {w : World} {x : FV} (h : Fil w x) {kx : Nat} {k : List Bool} (hk : Keep S w kx k) (hw : x.m.s + x.m.ps.sum = x.m.b.length) (hpos : ∀ n ∈ x.m.ps, 0 < n) (hlen : x.m.b.length ≤ 1099511627776) (hpl : x.m.ps.length ≤ 1099511627776)
    (hfar : ∀ y, FootF x y → S y) :
    Calls Try.prog 34 #[.pointer (some ⟨x.g, 0, none⟩), .func (.func 41) #[] #[.pointer (some ⟨kx, 0, none⟩)]] w fun e w' => e = .returned (.tuple #[]) ∧ ∃ bv, Fil w' ⟨x.g, bv, .slice none 0 0, (fcr x.m k).1⟩ ∧ Keep S w' kx (fcr x.m k).2 ∧ Tch (fun y => FootF x y ∨ y = kx) w w' ∧ bv.ownBlock = x.bv.ownBlock := by
  have c1 : w.cell? ⟨x.g, 1, none⟩ = some (.int .i64 (x.m.s : Int)) := held_cell h.at_ rfl
  have c2 : w.cell? ⟨x.g, 2, none⟩ = some x.pv := held_cell h.at_ rfl
  obtain ⟨A2, cp2, hpv, _⟩ := h.p.rd.form
  obtain ⟨A, c, hbv, hcap, hAn, hAs⟩ := own_form h.b
  have c2' : w.cell? ⟨x.g, 2, none⟩ = some (.slice A2 x.m.ps.length cp2) := by rw [c2, hpv]
  have S0 : Hid (CrS S w w x kx k 0 x.m.s x.m.s) := hid ⟨Nat.zero_le _, ⟨x.m.b, k, h, hk, rfl, rfl⟩, hw, Nat.le_refl _, Tch.refl _ _⟩
  have HP := hid hpv
  have HB := hid hbv
  clear h hk c2 hpv hbv hw
  have hdr : ∀ n : Nat, Tch (fun _ => False) w (w.drewN n) := fun n => ⟨rfl, rfl, rfl, Nat.le_refl _, fun _ _ _ => rfl⟩
  have S1 : ∀ n : Nat, Hid (CrS S w (w.drewN n) x kx k 0 x.m.s x.m.s) := fun n => hid ⟨S0.out.jl, by
    obtain ⟨b, k', e1, e2, e3, e4⟩ := S0.out.ex
    exact ⟨b, k', e1.touch (hdr n) (fun _ h => h.elim), e2.touch ((hdr n).mono (fun _ h => h.elim)), e3, e4⟩, S0.out.sm, S0.out.ea, S0.out.to.trans ((hdr n).mono (fun _ h => h.elim))⟩
  clear S0
  go_enter Try.func34, Try.ntmps34
  go_wp2
  go_quiet (fail)
  go_wp2
  go_loopw [4, 5, 22] (fun av ev iv wr => ∃ j a e : Nat, av = .int .i64 a ∧ ev = .int .i64 e ∧ iv = .int .i64 j ∧ Hid (CrS S w wr x kx k j a e)) (fun _ _ iv _ => x.m.ps.length - (intOf iv).toNat)
  case atStart => exact ⟨0, _, _, rfl, rfl, rfl, S1 _⟩
  case round =>
    obtain ⟨j, a, e, rfl, rfl, rfl, HS⟩ := hrel
    obtain ⟨b, k', hF, hKp, hcg, hbl⟩ := HS.out.ex
    have hsm := HS.out.sm
    have hea := HS.out.ea
    have hjl := HS.out.jl
    have HTo := hid HS.out.to
    have hnk : ¬ FootF x kx := fun hf => by
      obtain ⟨v, _, _, _, h4⟩ := hKp
      exact h4 (hfar _ hf)
    by_cases hLt : j < x.m.ps.length
    · obtain ⟨n, hn⟩ : ∃ n, n = x.m.ps[j] := ⟨_, rfl⟩
      have hdp : x.m.ps.drop j = n :: x.m.ps.drop (j + 1) := by rw [hn]; exact List.drop_eq_getElem_cons hLt
      have hn0 : 0 < n := hpos n (by rw [hn]; exact List.getElem_mem hLt)
      rw [hdp] at hcg hsm
      rw [List.sum_cons] at hsm
      rw [cgo_step] at hcg
      have e0 : wr.cell? ⟨x.g, 0, none⟩ = some (.slice A x.m.b.length c) := by rw [← HB.out]; exact held_cell hF.at_ rfl
      have hrd : KN.Rd wr (.slice A2 x.m.ps.length cp2) x.m.ps := by rw [← HP.out]; exact hF.p.rd
      obtain ⟨b2, off2, hA2, hlt2, hc2⟩ := hrd.at hLt
      subst hA2
      have d0 : wr.cell? ⟨b2, off2 + j, none⟩ = some (.int .i64 (n : Int)) := by
        have := hc2 0 (.int .i64 (x.m.ps[j] : Int)) (by decide) rfl
        rw [← hn] at this
        rwa [Nat.add_zero, show KN.z = 1 from rfl, Nat.mul_one] at this
      have hwn : IntKind.i64.wrap ((a : Int) + (n : Int)) = ((a + n : Nat) : Int) := by rw [IntKind.wrap_i64]; omega
      have hil : (j : Int) < (x.m.ps.length : Int) := by omega
      have HL := hid hLt
      have hK := kept_is hKp
      generalize hkb : k'.headD false = kb at *
      have tk1 : True := trivial
      cases kb
      · -- lost
        rw [if_neg (by simp)] at hcg
        obtain ⟨g, hg⟩ : ∃ g, A = some ⟨g, 0, none⟩ := by
          cases A with
          | none => have := hAn rfl; omega
          | some a' => obtain ⟨g, rfl⟩ := hAs a' rfl; exact ⟨g, rfl⟩
        subst hg
        have hsl := slice_mid (g := g) (n := x.m.b.length) (c := c) (i := a) (m := n) hn0 (by omega)
        have hNext : ∀ w1, Keep S w1 kx k'.tail → Tch (· = kx) wr w1 → w1.cell? ⟨x.g, 0, none⟩ = some (.slice (some ⟨g, 0, none⟩) x.m.b.length c) ∧ (∀ ty, (Builtin.clear_ #[22] ty #[.slice (some ⟨g, a, none⟩) n (c - a)]).run Try.prog w1 = .ok (.tuple #[]) (w1.setCells g a (List.replicate n (.int .u8 0)))) ∧ Hid (CrS S w (w1.setCells g a (List.replicate n (.int .u8 0))) x kx k (j + 1) (a + n) e) := by
          intro w1 hK1 t1
          have hF1 := hF.touch t1 (fun y hy hf => hnk (hy ▸ hf))
          have hb1 := hF1.b
          simp only [HB.out] at hb1
          have hgb : x.bv.ownBlock = some g := by rw [HB.out]; rfl
          obtain ⟨hz1, _⟩ := own_zero hb1 (i := a) (m := n) (by omega)
          have tz : Tch (FootF x) w1 (w1.setCells g a (List.replicate n (.int .u8 0))) := tch_setCells (S := FootF x) (.inr (.inl hgb)) _ _ _
          have hgx : g ≠ x.g := fun e => by
            obtain ⟨cur, hc⟩ := hb1.row (k := g) rfl
            exact tag_ne hc hF1.at_ (by decide) e
          have tz2 : Tch (· = g) w1 (w1.setCells g a (List.replicate n (.int .u8 0))) := tch_setCells (S := (· = g)) rfl _ _ _
          refine ⟨by rw [← HB.out]; exact held_cell hF1.at_ rfl, fun ty => ?_, hid ⟨by omega, ⟨zero b a (a + n), k'.tail, ⟨?_, ?_, ?_⟩, ?_, hcg, by rw [zero_len (by omega) (by omega)]; exact hbl⟩, by omega, by omega, ?_⟩⟩
          · rcases hb1.2 with ⟨hv, _⟩ | ⟨g', cap, cur, hv, hg', hh, h1, h2, h3, h4⟩
            · cases hv
            · injection hv with e1 e2 e3
              injection e1 with e1
              injection e1 with e1
              subst e1 e3
              rw [show KB.z = 1 from rfl, Nat.mul_one] at h3
              exact Lib.run_clear_slice w1 22 5 ty (.int .u8 0) Try.underlying22 Try.zeroValue5 rfl rfl g a n (c - a) hn0 (fun i hi => by
                rw [cell_of_row _ _ _ _ _ _ hh, Array.getElem?_eq_getElem (by omega)]
                rfl) (fun i hi => held_frozen hh)
          · exact tz2.row hF1.at_ (fun e => hgx e.symm)
          · rw [HB.out]; exact hz1
          · refine hF1.p.touch tz2 (fun y hy hp => ?_)
            obtain ⟨cur, hc⟩ := hb1.row (k := g) rfl
            obtain ⟨cur2, hc2⟩ := hF1.p.row hp
            exact tag_ne hc2 hc (by decide) hy
          · exact hK1.touch (tz.mono hfar)
          · exact HTo.out.trans ((t1.mono (fun y hy => .inr hy)).trans (tz.mono (fun y hy => .inl hy)))
        clear hF hKp hcg hbl hdp hn hrd hc2 HS hsm hea hjl
        generalize a + n = an at *
        go_wp2_with (go_at_call 41; clear tk1; refine hK.mono ?_; rintro e1 w1 ⟨rfl, k1, t1⟩; obtain ⟨q0, hcl, HN⟩ := hNext w1 k1 t1; clear hNext hK e0 d0)
        go_roundw
        case rel => exact ⟨j + 1, an, e, by go_num, by go_num, by go_num, HN⟩
        case measure => have := HL.out; simp [intOf]; omega
      · -- kept
        rw [if_pos rfl] at hcg
        have hNext : ∀ w1, Keep S w1 kx k'.tail → Tch (· = kx) wr w1 → Hid (CrS S w w1 x kx k (j + 1) (a + n) (a + n)) := by
          intro w1 hK1 t1
          have hF1 := hF.touch t1 (fun y hy hf => hnk (hy ▸ hf))
          exact hid ⟨by omega, ⟨b, k'.tail, hF1, hK1, hcg, hbl⟩, by omega, by omega, HTo.out.trans (t1.mono (fun y hy => .inr hy))⟩
        clear hF hKp hcg hbl hdp hn hrd hc2 HS hsm hea hjl
        generalize a + n = an at *
        go_wp2_with (go_at_call 41; clear tk1; refine hK.mono ?_; rintro e1 w1 ⟨rfl, k1, t1⟩; have HN := hNext w1 k1 t1; clear hNext hK e0 d0)
        go_roundw
        case rel => exact ⟨j + 1, an, an, by go_num, by go_num, by go_num, HN⟩
        case measure => have := HL.out; simp [intOf]; omega
    · have hil : ¬ (j : Int) < (x.m.ps.length : Int) := by omega
      have hdp : x.m.ps.drop j = [] := List.drop_eq_nil_of_le (by omega)
      rw [hdp] at hcg hsm
      have hcr : fcr x.m k = (⟨b.take e, e, []⟩, k') := by
        unfold fcr
        rw [← hcg]
        rfl
      have hel : e ≤ x.m.b.length := by simp at hsm; omega
      have e0 : wr.cell? ⟨x.g, 0, none⟩ = some (.slice A x.m.b.length c) := by rw [← HB.out]; exact held_cell hF.at_ rfl
      have ef := held_frozen (i := 0) hF.at_
      have hsl := slice_front (A := A) (n := x.m.b.length) (c := c) (e := e) hAn hAs (by omega)
      have t1 : Tch (· = x.g) wr (wr.setCell ⟨x.g, 0, none⟩ (.slice A e c)) := Tch.set (· = x.g) wr ⟨x.g, 0, none⟩ _ rfl
      have hb0 := hF.b
      simp only [HB.out] at hb0
      have hF2 : Fil (wr.setCell ⟨x.g, 0, none⟩ (.slice A e c)) ⟨x.g, .slice A e c, x.pv, ⟨b.take e, x.m.s, x.m.ps⟩⟩ := by
        refine ⟨row_set hF.at_ _, (own_front hb0 (by omega)).touch t1 (fun y hy hp => ?_), hF.p.touch t1 (fun y hy hp => ?_)⟩
        · obtain ⟨cur, hc⟩ := hb0.row (k := y) (by cases A <;> exact hp)
          exact tag_ne hc hF.at_ (by decide) hy
        · obtain ⟨cur, hc⟩ := hF.p.row hp
          exact tag_ne hc hF.at_ (by decide) hy
      have hSy := fsync_is hF2 (by simp; omega)
      have hsy2 : synF ⟨b.take e, x.m.s, x.m.ps⟩ = ⟨b.take e, e, []⟩ := by
        unfold synF
        simp only [FM.mk.injEq, true_and, and_true]
        rw [List.length_take]
        omega
      have HEnd : ∀ w3, Fil w3 ⟨x.g, .slice A e c, .slice none 0 0, synF ⟨b.take e, x.m.s, x.m.ps⟩⟩ → Tch (· = x.g) (wr.setCell ⟨x.g, 0, none⟩ (.slice A e c)) w3 → ∃ bv, Fil w3 ⟨x.g, bv, .slice none 0 0, (fcr x.m k).1⟩ ∧ Keep S w3 kx (fcr x.m k).2 ∧ Tch (fun y => FootF x y ∨ y = kx) w w3 ∧ bv.ownBlock = x.bv.ownBlock := by
        intro w3 hf3 t3
        rw [hsy2] at hf3
        refine ⟨.slice A e c, by rw [hcr]; exact hf3, by rw [hcr]; exact (hKp.touch (t1.mono (fun y hy => hfar y (.inl hy)))).touch (t3.mono (fun y hy => hfar y (.inl hy))), HTo.out.trans ((t1.mono (fun y hy => .inl (.inl hy))).trans (t3.mono (fun y hy => .inl (.inl hy)))), ?_⟩
        rw [HB.out]
        cases A <;> rfl
      clear hF hKp hcg hbl hdp HS hsm hea hjl hcr hb0 hF2 t1
      go_wp2_with (go_at_call 44; refine hSy.mono ?_; rintro e1 w3 ⟨rfl, hf3, t3⟩)
      go_end0
      exact ⟨rfl, HEnd w3 hf3 t3⟩
end Go.Proofs.Ytjpneohachkheaa
