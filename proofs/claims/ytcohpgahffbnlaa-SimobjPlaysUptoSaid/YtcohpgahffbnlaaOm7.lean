/-
  Changes noted and forgotten. Conditions: those that each theorem names.
-/
import Derived.Test.YtcohpgahffbnlaaOm6
import Derived.Test.YtcohpgahffbnlaaOde
namespace Go.Proofs.Ytcohpgahffbnlaa
open Go.RowKit Go.Icz Go.Maps Go.ChangeMaps Go.MapKept
set_option maxRecDepth 100000
set_option maxHeartbeats 4000000
variable {w : World} {T : Nat → Prop} {q p bO : Nat} {cv : Value} {X : List Chg} {M : SM}
theorem drop_at {α : Type} {p : α → Bool} : ∀ (l : List α) (i : Nat) (hi : i < l.length), (∀ x ∈ l.take i, p x = true) → p l[i] = false → l.dropWhile p = l.drop i
  | x :: r, 0, _, _, h => by
    rw [List.dropWhile_cons, show p x = false from h]
    rfl
  | x :: r, i + 1, hi, h1, h => by
    have hx : p x = true := h1 x (by simp)
    rw [List.dropWhile_cons, if_pos hx, drop_at r i (by simpa using hi) (fun y hy => h1 y (by simp [hy])) h]
    rfl
theorem drop_all {α : Type} {p : α → Bool} : ∀ (l : List α), (∀ x ∈ l, p x = true) → l.dropWhile p = []
  | [], _ => rfl
  | x :: r, h => by rw [List.dropWhile_cons, if_pos (h x (by simp)), drop_all r (fun y hy => h y (by simp [hy]))]
theorem below_drewN (B : Nat) (w : World) (n : Nat) : Below B w (w.drewN n) := ⟨rfl, rfl, rfl, Nat.le_refl _, fun _ _ => rfl⟩
/-- What a step leaves: the changes in a block of their own. -/
def Fg (w : World) (T : Nat → Prop) (q p bO : Nat) (cv : Value) (X : List Chg) (M : SM) (w' : World) : Prop :=
  (∃ cv', Ro w' T q p bO cv' X M ∧ ∀ g, cv'.ownBlock = some g → cv.ownBlock = some g ∨ w.heap.size ≤ g) ∧ Tch (fun j => j = p ∨ cv.ownBlock = some j) w w'
theorem forget_is (R : Ro w T q p bO cv X M) (hlen : X.length ≤ 4194304) (hnow : M.now ≤ 1099511627776) (hmost : M.most ≤ 100) (ht : ∀ x ∈ X, x.t ≤ M.now) :
    Calls Try.prog 33 #[.pointer (some ⟨p, 0, none⟩)] w fun e w' => e = .returned (.tuple #[]) ∧ Fg w T q p bO cv (X.dropWhile (oldB M)) M w' := by
  have p1 : w.cell? ⟨p, 1, none⟩ = some cv := held_cell R.p_ rfl
  have p2 : w.cell? ⟨p, 2, none⟩ = some (.int .i64 (M.now : Int)) := held_cell R.p_ rfl
  have p4 : w.cell? ⟨p, 4, none⟩ = some (.int .i64 (M.most : Int)) := held_cell R.p_ rfl
  have fz1 := held_frozen (i := 1) R.p_
  have hpl : p < w.heap.size := row_lt R.p_
  have hcn : cv.ownBlock ≠ some p := R.pne.2.2.1
  have HF : Hid (∀ wr, Below w.heap.size w wr → wr.cell? ⟨p, 1, none⟩ = some cv ∧ wr.cell? ⟨p, 2, none⟩ = some (.int .i64 (M.now : Int)) ∧ wr.cell? ⟨p, 4, none⟩ = some (.int .i64 (M.most : Int)) ∧ wr.frozen? ⟨p, 1, none⟩ = false ∧ KC.Own wr 0 cv X) := hid (fun wr b => ⟨(b.cell (p := ⟨p, 1, none⟩) hpl).trans p1, (b.cell (p := ⟨p, 2, none⟩) hpl).trans p2, (b.cell (p := ⟨p, 4, none⟩) hpl).trans p4, (b.frozen (p := ⟨p, 1, none⟩) hpl).trans fz1, R.ch.below b⟩)
  -- the end of it, the changes cut
  have HCut : Hid (∀ wr w2 v2 (i : Nat), Below w.heap.size w wr → KC.Own w2 0 v2 (X.drop i) → v2.ownBlock = cv.ownBlock → Tch (fun j => cv.ownBlock = some j) wr w2 → X.dropWhile (oldB M) = X.drop i → Fg w T q p bO cv (X.dropWhile (oldB M)) M (w2.setCell ⟨p, 1, none⟩ v2)) := hid (fun wr w2 v2 i b o hv t he => by
    have t1 : Tch (fun j => j = p ∨ cv.ownBlock = some j) w w2 := (Tch.of_below (S := fun _ => False) b |>.mono (fun k h => h.elim)).trans (t.mono (fun k h => .inr h))
    have R1 := R.below b
    have hp2 : w2.heap[p]? = some (.cells (roR M bO cv) 42 (0, 0)) := t.row R1.p_ (fun h => hcn h)
    have t2 : Tch (fun j => j = p ∨ cv.ownBlock = some j) w (w2.setCell ⟨p, 1, none⟩ v2) := t1.trans (Tch.set _ _ _ _ (.inl rfl))
    refine ⟨⟨v2, ?_, fun g hg => .inl (by rw [← hv]; exact hg)⟩, t2⟩
    have hq : ∀ j, (j = p ∨ cv.ownBlock = some j) → j ≠ q ∧ j ≠ bO ∧ ∀ cs z, w.heap[j]? ≠ some (.cells cs 5 z) := fun j hj => by
      rcases hj with rfl | hj
      · exact ⟨R.pne.1, R.pne.2.1, R.pne.2.2.2⟩
      · obtain ⟨cur, hc⟩ := R.ch.row hj
        obtain ⟨es, ck, hm⟩ := R.ob.row
        exact ⟨tag_ne hc R.q_ (by decide), map_ne hc hm, fun cs z e => tag_ne hc e (by decide) rfl⟩
    exact ⟨t2.row R.q_ (fun h => (hq _ h).1 rfl), by rw [row_set hp2]; rfl, R.ob.touch t2 (fun h => (hq _ h).2.1 rfl) (fun j hj _ => (hq j hj).2.2), by
      rw [he]
      exact o.touch (Tch.set (· = p) _ _ _ rfl) (fun j hj => by rw [hj, hv]; exact hcn), R.tq, R.tp, R.tb, fun g hg => R.tc g (by rw [← hv]; exact hg)⟩)
  have HNil : Hid (∀ wr, Below w.heap.size w wr → X.dropWhile (oldB M) = [] → Fg w T q p bO cv (X.dropWhile (oldB M)) M (wr.setCell ⟨p, 1, none⟩ (.slice none 0 0))) := hid (fun wr b he => by
    have R1 := R.below b
    have t := Tch.set (· = p) wr ⟨p, 1, none⟩ (.slice none 0 0) rfl
    refine ⟨⟨.slice none 0 0, ?_, fun g hg => (by cases hg)⟩, ((Tch.of_below (S := fun _ => False) b).mono (fun k h => h.elim)).trans (t.mono (fun k h => .inl h))⟩
    rw [he]
    exact R1.setp t (by rw [row_set R1.p_]; rfl) rfl (Kd.Own.nil _ _) (fun g hg => (by cases hg)))
  have hDel : ∀ (wr : World) (i : Nat), Hid (Below w.heap.size w wr) → i < X.length → Calls Try.prog 51 #[cv, .int .i64 0, .int .i64 (i : Int)] wr fun e w' => ∃ v', e = .returned v' ∧ w'.cell? ⟨p, 1, none⟩ = some cv ∧ w'.frozen? ⟨p, 1, none⟩ = false ∧ Hid (KC.Own w' 0 v' (X.drop i) ∧ v'.ownBlock = cv.ownBlock ∧ Tch (fun j => cv.ownBlock = some j) wr w') ∧ ∃ A n c, v' = .slice A n c := fun wr i b hi => by
    obtain ⟨g1, _, _, g4, o⟩ := HF.out wr b.out
    refine (delete_is o hlen hi).mono ?_
    rintro e w' ⟨v', rfl, o', hb, t⟩
    have hpr : p < wr.heap.size := Nat.lt_of_lt_of_le hpl b.out.size
    have hrow := t.row ((R.below b.out).p_) (fun h => hcn h)
    obtain ⟨A, c, hv, _⟩ := o'.rd.form
    exact ⟨v', rfl, held_cell hrow rfl, held_frozen hrow, hid ⟨o', hb, t⟩, A, _, c, hv⟩
  obtain ⟨A, cp, rfl, hcp⟩ := R.ch.rd.form
  have HX : Hid (∀ wr (k : Nat) (hk : k < X.length), Below w.heap.size w wr → ∃ b off, A = some ⟨b, off, none⟩ ∧ wr.cell? ⟨b, off + k * 3, none⟩ = some (.int .i64 (X[k].t : Int)) ∧ wr.cell? ⟨b, off + k * 3 + 1, none⟩ = some (.string X[k].k) ∧ wr.cell? ⟨b, off + k * 3 + 2, none⟩ = some (.bool X[k].c)) := hid (fun wr k hk b => by
    obtain ⟨b', off, hA, _, hcs⟩ := ((R.ch.below b).rd).at hk
    exact ⟨b', off, hA, hcs 0 _ (by decide) rfl, hcs 1 _ (by decide) rfl, hcs 2 _ (by decide) rfl⟩)
  have HT := hid ht
  clear R ht p1 p2 p4 fz1 hcn hpl
  obtain ⟨p1, p2, p4, fz1, _⟩ := HF.out w (Below.refl _ _)
  go_enter Try.func33, Try.ntmps33
  go_wp2
  go_loopw [9] (fun iv wr => ∃ i : Nat, iv = .int .i64 i ∧ i ≤ X.length ∧ Hid (∀ x ∈ X.take i, oldB M x = true) ∧ Hid (Below w.heap.size w wr)) (fun iv _ => X.length - (intOf iv).toNat)
  case atStart => exact ⟨0, rfl, Nat.zero_le _, hid (fun _ h => (by cases h)), hid (Below.refl _ _)⟩
  case round =>
    obtain ⟨i, rfl, hi, HO, hb⟩ := hrel
    obtain ⟨r1, r2, r4, rf1, _⟩ := HF.out wr hb.out
    by_cases hlt : i < X.length
    · have hil : (i : Int) < (X.length : Int) := by omega
      obtain ⟨b, off, rfl, d0, d1, d2⟩ := HX.out wr i hlt hb.out
      have hxt : X[i].t ≤ M.now := HT.out _ (List.getElem_mem hlt)
      have HTk : Hid (X.take (i + 1) = X.take i ++ [X[i]]) := hid (List.take_succ_eq_append_getElem hlt)
      have hb2 : Below w.heap.size w (wr.alloc (.cells #[.int .i64 (X[i].t : Int), .string X[i].k, .bool X[i].c] 92)) := hb.out.alloc hb.out.size _
      have HB2 := hid hb2
      obtain ⟨s1, s2, s4, sf1, _⟩ := HF.out _ hb2
      cases ho : oldB M X[i] with
      | true =>
        have hd : ¬ ((M.now : Int) - (M.most : Int) < (X[i].t : Int)) := by
          unfold oldB at ho
          have := of_decide_eq_true ho
          omega
        have HO2 : Hid (∀ x ∈ X.take (i + 1), oldB M x = true) := hid (fun x hx => by
          rw [HTk.out] at hx
          rcases List.mem_append.1 hx with hx | hx
          · exact HO.out x hx
          · rw [List.mem_singleton.1 hx]; exact ho)
        have HL := hid hlt
        have zz : IntKind.i64.wrap ((M.now : Int) - (M.most : Int)) = (M.now : Int) - (M.most : Int) := by rw [IntKind.wrap_i64]; omega
        have hB3 : Hid (Below w.heap.size w (wr.alloc (.cells #[.int .i64 (X[i].t : Int), .string X[i].k, .bool X[i].c] 92)).drew) := hid (hb2.trans (Below.refl _ _).drew)
        clear HF HCut HNil hDel HX HO ho hxt hb2
        generalize X[i].t = xt at *
        go_wp2
        go_quiet (fail)
        go_wp2
        go_roundw
        case rel => exact ⟨i + 1, by go_num, HL.out, HO2, hid (HB2.out.trans (below_drewN _ _ _))⟩
        case measure => have := HL.out; simp [intOf]; omega
      | false =>
        have hd : (M.now : Int) - (M.most : Int) < (X[i].t : Int) := by
          unfold oldB at ho
          have := of_decide_eq_false ho
          omega
        have HL := hid hlt
        have HE : Hid (X.dropWhile (oldB M) = X.drop i) := hid (drop_at X i hlt HO.out ho)
        have zz : IntKind.i64.wrap ((M.now : Int) - (M.most : Int)) = (M.now : Int) - (M.most : Int) := by rw [IntKind.wrap_i64]; omega
        have HB3 : Hid (∀ nq, Below w.heap.size w ((wr.alloc (.cells #[.int .i64 (X[i].t : Int), .string X[i].k, .bool X[i].c] 92)).drewN nq)) := hid (fun nq => hb2.trans (below_drewN _ _ _))
        clear HF HNil HX HO ho hxt hb2
        generalize X[i].t = xt at *
        go_wp2
        go_quiet (fail)
        go_wp2_with (go_at_call 51; refine (hDel _ i (hid (HB3.out _)) HL.out).mono ?_; rintro e w2 ⟨v2, rfl, c2, fr2, H2, A2, n2, k2, rfl⟩)
        refine bodyPost_ret (results_none rfl _ _ _) rfl ?_
        exact ⟨rfl, HCut.out _ _ _ i (HB3.out _) H2.out.1 H2.out.2.1 H2.out.2.2 HE.out⟩
    · have hil : ¬ (i : Int) < (X.length : Int) := by omega
      have HE : Hid (X.dropWhile (oldB M) = []) := hid (drop_all X (fun x hx => HO.out x (by rw [List.take_of_length_le (by omega)]; exact hx)))
      clear HF HCut hDel HX HO
      go_wp2
      go_end0
      exact ⟨rfl, HNil.out wr hb.out HE.out⟩
end Go.Proofs.Ytcohpgahffbnlaa
