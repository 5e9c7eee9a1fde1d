/-
  A step of both stores: Put, Get, and what each step ends with. Conditions: those that each theorem names.
-/
import Derived.Test.YtcohpgahffbnlaaOst
namespace Go.Icz
open Go.RowKit
theorem own_tch {α : Type} {K : Kd α} {S : Nat → Prop} {w w' : World} {B : Nat} {v : Value} {l : List α} (h : K.Own w B v l) (t : Tch S w w') (hS : ∀ b, v.ownBlock = some b → ¬ S b) : K.Own w' B v l := by
  refine ⟨h.1, ?_⟩
  rcases h.2 with h | ⟨g, cap, cur, hv, hb, hg, r⟩
  · exact .inl h
  · exact .inr ⟨g, cap, cur, hv, hb, t.row hg (hS g (by rw [hv]; rfl)), r⟩
end Go.Icz
namespace Go.Proofs.Ytcohpgahffbnlaa
open Go.RowKit Go.Icz Go.Maps Go.ChangeMaps Go.MapKept
set_option maxRecDepth 100000
set_option maxHeartbeats 4000000
variable {w w' W : World} {T T' : Nat → Prop} {m c c' d q p r bx : Nat} {M M' N N' : SM} {L L' : OM} {o : OpD}
theorem own_far {α : Type} {K : Kd α} {B n C : Nat} {A : Option Addr} {l : List α} (h : K.Own w B (.slice A n C) l) : K.Own w B (.slice A l.length C) l ∧ n = l.length := by
  obtain ⟨A2, c2, hv, _⟩ := h.rd.form
  injection hv with _ e _
  subst e
  exact ⟨h, rfl⟩
/-- Put of lent bytes, in both. -/
theorem Bp.put (h : Bp T o bx c q p r W w) (hc : c + 2 ≤ 4194304) :
    Calls Try.prog 16 #[.slice o.A o.bs.length o.C] w fun e w1 => ∃ g C, e = .returned (.slice (some ⟨g, 0, none⟩) o.bs.length C) ∧ Hid (∃ x : Int, ∀ wd, Hid (Below w1.heap.size w1 wd) →
      (wd.cell? ⟨bx, 1, none⟩ = some (.string o.nm) ∧ wd.cell? ⟨bx, 2, none⟩ = some (.slice o.A o.bs.length o.C)) ∧ Calls Try.prog 10 #[.pointer (some ⟨q, 0, none⟩), .string o.nm, .slice (some ⟨g, 0, none⟩) o.bs.length C] wd fun e w2 => e = .returned (.int .i64 x) ∧
      (w2.cell? ⟨bx, 1, none⟩ = some (.string o.nm) ∧ w2.cell? ⟨bx, 2, none⟩ = some (.slice o.A o.bs.length o.C)) ∧ Hid (Calls Try.prog 17 #[.pointer (some ⟨r, 0, none⟩), .string o.nm, .slice o.A o.bs.length o.C] w2 fun e w3 => e = .returned (.int .i64 x) ∧
      (w3.cell? ⟨bx, 1, none⟩ = some (.string o.nm) ∧ w3.cell? ⟨bx, 2, none⟩ = some (.slice o.A o.bs.length o.C)) ∧ Hid (Calls Try.prog 18 #[.slice (some ⟨g, 0, none⟩) o.bs.length C, .slice o.A o.bs.length o.C] w3 fun e w4 => e = .returned (.bool true) ∧
      (w4.cell? ⟨bx, 1, none⟩ = some (.string o.nm) ∧ w4.cell? ⟨bx, 2, none⟩ = some (.slice o.A o.bs.length o.C)) ∧ Hid (BytR w4 g o.bs.length ∧ ∀ wx, Tch (· = g) w4 wx → Bp T o bx (c + 2) q p r W wx)))) := by
  obtain ⟨M, L, h, ag, tg⟩ := h
  obtain ⟨L', e, ag'⟩ := put_agr ag h.hf.wf.nn o.nm o.bs
  refine (Lent_is _ o.bs w h.rd h.bs).mono ?_
  rintro e1 w1 ⟨g, C, rfl, ow, b1⟩
  have hg := World.ownsRow.lt ow g rfl
  refine ⟨g, C, rfl, hid ⟨(putM M o.nm o.bs).1, fun wd hbd => ?_⟩⟩
  have hbd := hbd.out
  have b01 : Below w.heap.size w wd := b1.trans (hbd.mono b1.size)
  have X : Bx (fun k => T k ∧ k ≠ g) o bx c q p r M (wl M L) wd wd :=
    ⟨((h.hf.below b01).to (T' := fun k => T k ∧ k ≠ g) (fun k a b => ⟨a, by omega⟩)).wk, Tch.refl _ _, (Tch.of_below (S := fun _ => False) b01).row h.row (fun h => h), fun a => h.nb a.1, fun k hk => ⟨h.up k (Nat.le_trans b01.size hk), by have := hbd.size; omega⟩, h.rd.below b01, fun h0 b hb a => h.fr h0 b hb a.1, h.nm, h.bs, h.nn⟩
  have ow0 := Kd.Own.below ow hbd
  have keep : ∀ wx, Tch (fun k => T k ∧ k ≠ g) wd wx → KB.Own wx w.heap.size (.slice (some ⟨g, 0, none⟩) (o.bs.length + 2) C) (o.bs ++ [77, 78]) := fun wx t => own_tch ow0 t (fun b hb a => a.2 (by injection hb with hb; exact hb.symm))
  refine ⟨⟨X.c1, X.c2⟩, (X.hf.put X.up hc o.nm X.nm (Kd.Rd.front (K := KB) ow0.rd) (fun _ b hb a => a.2 (by injection hb with hb; exact hb.symm)) X.bs).mono ?_⟩
  rintro e2 w2 ⟨rfl, H2⟩
  have X2 := X.next H2
  refine ⟨rfl, ⟨X2.c1, X2.c2⟩, hid ((X2.hf.rput X2.up (ag.wf h.hf.wf) o.nm (num63 X2.nm) X2.rd X2.fr X2.bs).mono ?_)⟩
  rintro e3 w3 ⟨rfl, H3⟩
  rw [e] at H3 ⊢
  have X3 := X2.next H3
  refine ⟨rfl, ⟨X3.c1, X3.c2⟩, hid ((Stays_is (keep w3 X3.tc) X3.rd X3.bs).mono ?_)⟩
  rintro e4 w4 ⟨rfl, b4⟩
  have X4 := X3.below b4
  refine ⟨rfl, ⟨X4.c1, X4.c2⟩, hid ⟨?_, fun wx t => ⟨_, L', ?_, ag', tg.put _ _⟩⟩⟩
  · obtain ⟨g', e', _, hm, cur, hr, hb⟩ := own_byt (keep w4 X4.tc) (by simp)
    injection e' with e'
    injection e' with e' _ _
    subst e'
    exact ⟨by simp at hm; omega, cur, hr, fun i hi => hb i (by simp; omega)⟩
  · have gT : T g := h.up g hg.1
    have tt : Tch T W wx := ((h.tc.trans (Tch.of_below b01)).trans (X4.tc.mono (fun k a => a.1))).trans (t.mono (fun k a => by rw [a]; exact gT))
    exact ⟨((X4.hf.far t (fun k a b => b.2 a)).to (fun k a _ => a.1)).wk, tt, t.row X4.row (fun a => h.nb (by rw [a]; exact gT)), h.nb, fun k hk => h.up k (by have := b01.size; have := X4.tc.size; have := t.size; omega), rd_tch X4.rd t (fun h0 b hb a => h.fr h0 b hb (by rw [a]; exact gT)), h.fr, h.nm, h.bs, h.nn⟩
/-- Get, in both. -/
theorem Bp.get (h : Bp T o bx c q p r W w) (hc : c + 1 ≤ 4194304) : ∃ (x : Int) (l : List Nat), Calls Try.prog 13 #[.pointer (some ⟨q, 0, none⟩), .string o.nm] w fun e w1 => ∃ A C, e = .returned (.tuple #[.slice A l.length C, .int .i64 x]) ∧ w1.cell? ⟨bx, 1, none⟩ = some (.string o.nm) ∧
    Hid (Calls Try.prog 19 #[.pointer (some ⟨r, 0, none⟩), .string o.nm] w1 fun e w2 => ∃ u, e = .returned (.tuple #[u, .int .i64 x]) ∧ (convert 32 9 (.slice A l.length C)).run Try.prog w2 = .ok (.string (strB l)) w2 ∧ (convert 32 9 u).run Try.prog w2 = .ok (.string (strB l)) w2 ∧
      Hid (Bp T o bx (c + 1) q p r W w2 ∧ (0 < l.length → ∃ g, A = some ⟨g, 0, none⟩ ∧ BytR w2 g l.length ∧ ∀ wx, Tch (· = g) w2 wx → Bp T o bx (c + 1) q p r W wx))) := by
  obtain ⟨M, L, h, ag, tg⟩ := h
  obtain ⟨e1, e2, e3⟩ := get_agr ag o.nm
  have hwf := h.hf.wf
  have hMc : (getM M o.nm).2.2.ch = M.ch ∧ (getM M o.nm).2.2.L = M.L := by
    unfold getM
    split
    · exact ⟨rfl, rfl⟩
    · split
      · exact ⟨rfl, rfl⟩
      · split <;> exact ⟨rfl, rfl⟩
  refine ⟨(getM M o.nm).2.1, (getM M o.nm).1, (h.hf.get hc o.nm h.nm).mono ?_⟩
  rintro e w1 ⟨A, n, C, rfl, ow, H1, t1⟩
  obtain ⟨ow, rfl⟩ := own_far ow
  have rw1 : w1.heap[bx]? = some (.cells o.cells 34 (0, 0)) := t1.row h.row (fun a => h.nb a.1)
  refine ⟨A, C, rfl, held_cell rw1 rfl, hid ?_⟩
  refine (H1.rget (ag.wf hwf) ag.ri o.nm (num63 h.nm)).mono ?_
  rintro e w2 ⟨A2, n2, C2, rfl, ru, hu, H2, t2⟩
  rw [e1] at ru
  rw [e3] at H2
  rw [e2]
  have ow2 := own_tch ow t2 (fun b hb a => by have := (World.ownsRow.lt ow b hb).1; omega)
  have t02 := t1.trans t2
  have rw2 := t2.row rw1 (fun a => h.nb a.1)
  have tw : Tch T w w2 := t02.mono (fun k a => a.1)
  have ag' : AgrL (getM M o.nm).2.2 L := ⟨fun k => by rw [hMc.2]; exact ag.al k, ag.ri⟩
  have tg' : Tog (getM M o.nm).2.2 := tg.same hMc.1 hMc.2
  refine ⟨_, rfl, conv_kb ow2.rd, conv_kb ru, hid ⟨⟨_, L, ⟨H2.wk, h.tc.trans tw, rw2, h.nb, fun k hk => h.up k (by have := tw.size; omega), rd_tch h.rd tw h.fr, h.fr, h.nm, h.bs, h.nn⟩, ag', tg'⟩, fun h0 => ?_⟩⟩
  obtain ⟨g, e', hgw, hb⟩ := own_byt ow2 h0
  have gT : T g := h.up g hgw
  refine ⟨g, e', hb, fun wx t => ⟨_, L, ⟨(((H2.to (T' := fun k => T k ∧ k < w.heap.size) (fun k a b => ⟨a, b⟩)).far t (fun k a b => by have := b.2; omega)).to (fun k a _ => a.1)).wk, (h.tc.trans tw).trans (t.mono (fun k a => by rw [a]; exact gT)), t.row rw2 (fun a => h.nb (by rw [a]; exact gT)), h.nb, fun k hk => h.up k (by have := tw.size; have := t.size; omega), rd_tch (rd_tch h.rd tw h.fr) t (fun h0 b hb a => h.fr h0 b hb (by rw [a]; exact gT)), h.fr, h.nm, h.bs, h.nn⟩, ag', tg'⟩⟩
/-- What is there, in both. -/
theorem Bp.look (h : Bp T o bx c q p r W w) : ∃ (y : Bool) (i : Nat), Calls Try.prog 28 #[.pointer (some ⟨q, 0, none⟩), .string o.nm] w fun e w1 => ∃ v, e = .returned (.tuple #[v, .bool y]) ∧ w1.cell? ⟨bx, 1, none⟩ = some (.string o.nm) ∧
    Hid (Calls Try.prog 29 #[.pointer (some ⟨r, 0, none⟩), .string o.nm] w1 fun e w2 => e = .returned (.tuple #[.int .i64 (i : Int), .bool y]) ∧ Hid (Bp T o bx c q p r W w2 ∧ (y = true → ∃ n cp b off s u, w2.cell? ⟨r, 4, none⟩ = some (.slice (some ⟨b, off, none⟩) n cp) ∧ i < n ∧ w2.cell? ⟨b, off + i * 2 + 1, none⟩ = some u ∧
      (∀ k, (convert 32 9 v).run Try.prog (w2.drewN k) = .ok (.string s) (w2.drewN k)) ∧ ∀ k, (convert 32 9 u).run Try.prog (w2.drewN k) = .ok (.string s) (w2.drewN k)))) := by
  obtain ⟨M, L, h, ag, tg⟩ := h
  have hwf := h.hf.wf
  refine ⟨(alook M.L o.nm).isSome, (rfind (wl M L).L o.nm).1, (h.hf.look o.nm h.nm).mono ?_⟩
  rintro e w1 ⟨A, n, C, rfl, ow, b1⟩
  have X1 := h.below b1
  refine ⟨_, rfl, X1.c1, hid ?_⟩
  have hy : (rfind (wl M L).L o.nm).2 = (alook M.L o.nm).isSome := ag.found o.nm
  refine (X1.hf.find o.nm (ag.wf hwf).ln).mono ?_
  rintro e w2 ⟨rfl, b2⟩
  have X2 := X1.below b2
  rw [hy]
  refine ⟨rfl, hid ⟨⟨M, L, X2, ag, tg⟩, fun ht => ?_⟩⟩
  obtain ⟨n', cp, b, off, l, A2, C2, k1, k2, k3, k4, k5⟩ := X2.hf.found ag.ri o.nm (by rw [hy]; exact ht)
  have hl : (alook M.L o.nm).getD [] = l := by
    have : alook M.L o.nm = some l := by rw [← ag.al]; exact k4
    rw [this]; rfl
  rw [hl] at ow
  have ow2 := ow.below b2
  exact ⟨n', cp, b, off, strB l, _, k1, k2, k3, fun k => conv_kb (show KB.Rd (w2.drewN k) _ l from ow2.rd), fun k => conv_kb (show KB.Rd (w2.drewN k) _ l from k5)⟩
/-- How each step ends. -/
theorem Bp.fin (h : Bp T o bx c q p r W w) : ∃ now calls : Int, (w.cell? ⟨r, 1, none⟩ = some (.int .i64 now) ∧ w.cell? ⟨r, 3, none⟩ = some (.int .i64 calls)) ∧ Calls Try.prog 30 #[.pointer (some ⟨q, 0, none⟩)] w fun e w1 => ∃ v, e = .returned v ∧ (w1.cell? ⟨r, 1, none⟩ = some (.int .i64 now) ∧ w1.cell? ⟨r, 3, none⟩ = some (.int .i64 calls)) ∧
    Hid (Calls Try.prog 31 #[.pointer (some ⟨r, 0, none⟩)] w1 fun e w2 => ∃ u, e = .returned u ∧ (w2.cell? ⟨r, 1, none⟩ = some (.int .i64 now) ∧ w2.cell? ⟨r, 3, none⟩ = some (.int .i64 calls)) ∧
      Hid (Calls Try.prog 23 #[v, u] w2 fun e w3 => e = .returned (.bool true) ∧ (w3.cell? ⟨r, 1, none⟩ = some (.int .i64 now) ∧ w3.cell? ⟨r, 3, none⟩ = some (.int .i64 calls)) ∧ Hid (Bp T o bx c q p r W w3 ∧
        (Calls Try.prog 14 #[.pointer (some ⟨q, 0, none⟩)] w3 fun e w' => e = .returned (.int .i64 now) ∧ w' = w3) ∧ Calls Try.prog 15 #[.pointer (some ⟨q, 0, none⟩)] w3 fun e w' => e = .returned (.int .i64 calls) ∧ w' = w3))) := by
  obtain ⟨M, L, h, ag, tg⟩ := h
  have hwf := h.hf.wf
  have cells : ∀ wx, Bx T o bx c q p r M (wl M L) W wx → wx.cell? ⟨r, 1, none⟩ = some (.int .i64 (M.now : Int)) ∧ wx.cell? ⟨r, 3, none⟩ = some (.int .i64 (M.calls : Int)) := fun wx X => by
    obtain ⟨lv, cv, hr⟩ := X.hf.row
    exact ⟨held_cell hr rfl, held_cell hr rfl⟩
  refine ⟨(M.now : Int), (M.calls : Int), cells w h, h.hf.keys.mono ?_⟩
  rintro e w1 ⟨v, rfl, ow, b1⟩
  have X1 := h.below b1
  refine ⟨v, rfl, cells w1 X1, hid ((X1.hf.rkeys (ag.wf hwf).ln).mono ?_)⟩
  rintro e w2 ⟨u, rfl, ou, b2⟩
  have X2 := X1.below b2
  refine ⟨u, rfl, cells w2 X2, hid ?_⟩
  have hk := keys_names ag hwf.nn
  have hln : ((rises M.L).map kb).length ≤ 1099511627776 := by
    rw [List.length_map, rises_length]
    have := hwf.ln
    omega
  have ou2 : KS.Rd w2 u ((rises M.L).map kb) := by rw [hk]; exact ou.rd
  refine (Texts_is v u _ _ w2 (ow.below b2).rd ou2 hln hln).mono ?_
  rintro e w3 ⟨rfl, b3⟩
  have X3 := X2.below b3
  exact ⟨by simp, cells w3 X3, hid ⟨⟨M, L, X3, ag, tg⟩, X3.hf.now, X3.hf.calls⟩⟩
end Go.Proofs.Ytcohpgahffbnlaa
