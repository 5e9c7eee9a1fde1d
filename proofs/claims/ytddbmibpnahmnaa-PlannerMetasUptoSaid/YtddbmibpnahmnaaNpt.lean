/-
  What the program's and the reference's Put of a Meta answer. Condition: none but that the Meta is one.
-/
import Derived.Test.YtddbmibpnahmnaaNpm
import Derived.Test.YtddbmibpnahmnaaJoin
import Derived.Test.YtddbmibpnahmnaaBare
import Derived.Test.YtddbmibpnahmnaaNrf
import Derived.Laws.BytesString
namespace Go.Icz
open Go.RowKit
theorem put8_row {w : World} {b : Nat} {a0 a1 a2 a3 a4 a5 a6 a7 : Value} {t : TypeId} (h : w.heap[b]? = some (.cells #[a0, a1, a2, a3, a4, a5, a6, a7] t (0, 0))) (u0 u1 u2 u3 u4 u5 u6 u7 : Value) : (((((((((w.setCell ⟨b, 0, none⟩ u0).setCell ⟨b, 1, none⟩ u1).setCell ⟨b, 2, none⟩ u2).setCell ⟨b, 3, none⟩ u3).setCell ⟨b, 4, none⟩ u4).setCell ⟨b, 5, none⟩ u5).setCell ⟨b, 6, none⟩ u6).setCell ⟨b, 7, none⟩ u7)).heap[b]? = some (.cells #[u0, u1, u2, u3, u4, u5, u6, u7] t (0, 0)) := by
  have h0 := row_set (i := 0) h u0
  have h1 := row_set (i := 1) h0 u1
  have h2 := row_set (i := 2) h1 u2
  have h3 := row_set (i := 3) h2 u3
  have h4 := row_set (i := 4) h3 u4
  have h5 := row_set (i := 5) h4 u5
  have h6 := row_set (i := 6) h5 u6
  have h7 := row_set (i := 7) h6 u7
  simpa using h7
theorem put8_tch {w : World} {b : Nat} (u0 u1 u2 u3 u4 u5 u6 u7 : Value) : Tch (· = b) w (((((((((w.setCell ⟨b, 0, none⟩ u0).setCell ⟨b, 1, none⟩ u1).setCell ⟨b, 2, none⟩ u2).setCell ⟨b, 3, none⟩ u3).setCell ⟨b, 4, none⟩ u4).setCell ⟨b, 5, none⟩ u5).setCell ⟨b, 6, none⟩ u6).setCell ⟨b, 7, none⟩ u7)) :=
  (((((((Tch.set (· = b) w ⟨b, 0, none⟩ u0 rfl).trans (Tch.set (· = b) _ ⟨b, 1, none⟩ u1 rfl)).trans (Tch.set (· = b) _ ⟨b, 2, none⟩ u2 rfl)).trans (Tch.set (· = b) _ ⟨b, 3, none⟩ u3 rfl)).trans (Tch.set (· = b) _ ⟨b, 4, none⟩ u4 rfl)).trans (Tch.set (· = b) _ ⟨b, 5, none⟩ u5 rfl)).trans (Tch.set (· = b) _ ⟨b, 6, none⟩ u6 rfl)).trans (Tch.set (· = b) _ ⟨b, 7, none⟩ u7 rfl)
theorem tch_of {B : Nat} {w w' : World} (h : Below B w w') : Tch (fun k => B ≤ k) w w' := ⟨h.os, h.tape, h.output, h.size, fun k _ hn => h.block k (Nat.lt_of_not_le hn)⟩
/-- The numbers that stand for a Meta, as they lie. -/
def intsV (l : List Int) : Array Value := (l.map (Value.int .i64)).toArray
theorem ints_cell {w : World} {b : Nat} {l : List Int} {t : TypeId} (h : w.heap[b]? = some (.cells (intsV l) t (0, 0))) {i : Nat} (hi : i < l.length) : w.cell? ⟨b, i, none⟩ = some (.int .i64 l[i]) := by
  refine held_cell h ?_
  unfold intsV
  simp [hi]
end Go.Icz
namespace Go.Proofs.Ytddbmibpnahmnaa
open Go.RowKit Go.Icz
set_option maxHeartbeats 2000000 in
set_option maxRecDepth 100000 in
theorem Eadd_fr (B g : Nat) (l m : List Nat) (u : Value) (w : World) (hW : WrAt w B g l 0) (hu : Rd w u m) (hlen : l.length + m.length ≤ 140737488355328) (hB : B ≤ w.heap.size) :
    Calls Try.prog 24 #[.pointer (some ⟨g, 0, none⟩), u, .int .i64 0] w fun e w' => e = .returned (.tuple #[]) ∧ WrAt w' B g (l ++ m) 0 ∧ Tch (fun k => k = g ∨ B ≤ k) w w' := by
  obtain ⟨v, h1, h2, c0, c1, f0, f1, ho⟩ := hW
  have hv := ho.rd
  obtain ⟨A, c, rfl, hc, _⟩ := hv
  have hu' := hu
  obtain ⟨A2, c2, rfl, hc2, _⟩ := hu'
  go_enter Try.func24, Try.ntmps24
  go_wp2_with (at_builtin; go_loud (refine wp_appR std rfl (.tmp 16) (.tmp 17) rfl B _ _ l m rfl ho rfl hu hlen hB ?_; intro v1 w1 o1 b1; obtain ⟨A1, c1', rfl, hc1, _⟩ := o1.rd; have d0 := (b1.cell (p := ⟨g, 0, none⟩) h1).trans c0; have d1 := (b1.cell (p := ⟨g, 1, none⟩) h1).trans c1; have e0 := (b1.frozen (p := ⟨g, 0, none⟩) h1).trans f0; have e1 := (b1.frozen (p := ⟨g, 1, none⟩) h1).trans f1))
  have hsz : w.heap.size ≤ w1.heap.size := b1.size
  have gg : ∀ (u0 u1 : Value), w1.grownBy ((w1.setCell ⟨g, 0, none⟩ u0).setCell ⟨g, 1, none⟩ u1) (some g) := fun u0 u1 => World.grownBy.trans (grown_set w1 g 0 u0) (grown_set _ g 1 u1)
  have hW : WrAt ((w1.setCell ⟨g, 0, none⟩ (.slice A1 (l.length + m.length) c1')).setCell ⟨g, 1, none⟩ (.int .i64 0)) B g (l ++ m) 0 := by
    refine ⟨.slice A1 (l.length + m.length) c1', h1, by simp [World.setCell]; omega, ?_, ?_, by simpa using e0, by simpa using e1, ?_⟩
    · rw [World.cell?_setCell_other _ _ _ _ (by simp)]
      exact World.cell?_setCell_same' w1 _ _ (by rw [d0]; rfl)
    · refine World.cell?_setCell_same' _ _ _ ?_
      rw [World.cell?_setCell_other _ _ _ _ (by simp), d1]; rfl
    · simp only [List.length_append] at o1
      exact Own.grown o1 (gg _ _) h1
  exact bodyPost_end (v := .tuple #[]) (by simp [results, Try.results24, go_sem]) rfl ⟨rfl, hW, ((tch_of b1).mono (fun k h => .inr h)).trans ((Tch.set _ _ ⟨g, 0, none⟩ _ (.inl rfl)).trans (Tch.set _ _ ⟨g, 1, none⟩ _ (.inl rfl)))⟩
set_option maxHeartbeats 4000000 in
set_option maxRecDepth 100000 in
theorem NPut_is (x : MV) (w : World) : Calls Try.prog 13 #[metaV x] w fun e w' => ∃ v, e = .returned (.tuple #[v, .int .i64 (if rightM x = true then 0 else 1)]) ∧ Own w' w.heap.size v (if rightM x = true then metaB x else []) ∧ Below w.heap.size w w' := by
  have hR := fun w1 => Right_is x w1
  have k0 := box_row w #[.int .i64 x.id, .int .i64 x.least, .int .i64 x.most, .int .i64 x.first, .int .i64 x.last, .int .i64 x.rows, .int .i64 x.bytes, .int .i64 x.level] 28
  have b0 : Below w.heap.size w (w.alloc (.cells #[.int .i64 x.id, .int .i64 x.least, .int .i64 x.most, .int .i64 x.first, .int .i64 x.last, .int .i64 x.rows, .int .i64 x.bytes, .int .i64 x.level] 28)) := (Below.refl _ w).alloc (Nat.le_refl _) _
  cases hr : rightM x
  · rw [hr] at hR
    unfold metaV at hR ⊢
    go_enter Try.func13, Try.ntmps13
    go_wp2_with (go_at_call 15; refine (hR _).mono ?_; rintro e w1 ⟨rfl, b1⟩)
    go_ret2
    exact ⟨_, rfl, Own.nil _ _, b0.trans (b1.mono b0.size)⟩
  · have hok := part_ok hr
    have P8 : (partM x).length = 8 := rfl
    have hw1 : IntKind.i64.wrap (x.most - x.least) = x.most - x.least := by have := rt_iff.1 hr; have := this.mo1; have := (rt_iff.1 hr).mo2; have := (rt_iff.1 hr).le1; rw [IntKind.wrap_i64]; omega
    have hw2 : IntKind.i64.wrap (x.last - x.first) = x.last - x.first := by have := (rt_iff.1 hr).la1; have := (rt_iff.1 hr).la2; have := (rt_iff.1 hr).fi1; rw [IntKind.wrap_i64]; omega
    have HP : Hid (metaB x = numsB ((partM x).take 8)) := hid (by rw [List.take_of_length_le (by rw [P8]; decide)]; rfl)
    have HI : intsV (partM x) = #[.int .i64 x.id, .int .i64 x.least, .int .i64 (x.most - x.least), .int .i64 x.first, .int .i64 (x.last - x.first), .int .i64 x.rows, .int .i64 x.bytes, .int .i64 x.level] := rfl
    rw [hr] at hR
    unfold metaV at hR ⊢
    generalize partM x = P at *
    have HIH := hid HI
    have HOK := hid hok
    have HP8 := hid P8
    clear HI hok P8 hr
    go_enter Try.func13, Try.ntmps13
    go_wp2_with (go_at_call 15; refine (hR _).mono ?_; rintro e w1 ⟨rfl, b1⟩; have k1 := (Tch.of_below b1 (S := fun _ => False)).row k0 (fun h => h); have q0 := fun o => held_cell (i := 0) (row_alloc k1 o) rfl; have q1 := fun o => held_cell (i := 1) (row_alloc k1 o) rfl; have q2 := fun o => held_cell (i := 2) (row_alloc k1 o) rfl; have q3 := fun o => held_cell (i := 3) (row_alloc k1 o) rfl; have q4 := fun o => held_cell (i := 4) (row_alloc k1 o) rfl; have q5 := fun o => held_cell (i := 5) (row_alloc k1 o) rfl; have q6 := fun o => held_cell (i := 6) (row_alloc k1 o) rfl; have q7 := fun o => held_cell (i := 7) (row_alloc k1 o) rfl; clear hR)
    have hsz := b0.trans (b1.mono b0.size)
    have WZ := (Below.refl _ w1).alloc (Nat.le_refl _) (.cells #[.slice none 0 0, .int .i64 0] 57)
    rw [← HIH.out]
    have rI := heap_alloc_new (w1.alloc (.cells #[.slice none 0 0, .int .i64 0] 57)) (.cells (intsV P) 3)
    rw [World.size_alloc] at rI
    have W0 := WrAt.below (WrAt.new w1) ((Below.refl _ _).alloc (Nat.le_refl _) (.cells (intsV P) 3))
    have W1 : WrAt ((w1.alloc (.cells #[.slice none 0 0, .int .i64 0] 57)).alloc (.cells (intsV P) 3)) (w1.heap.size + 2) w1.heap.size [] 0 := by
      obtain ⟨v, h1, h2, c0, c1, f0, f1, ho⟩ := WrAt.new w1
      obtain ⟨v', h1', h2', c0', c1', f0', f1', ho'⟩ := W0
      have c2 := held_cell (i := 0) (row_alloc (heap_alloc_new w1 (.cells #[.slice none 0 0, .int .i64 0] 57)) (.cells (intsV P) 3)) rfl
      exact ⟨.slice none 0 0, by omega, h2', c2, c1', f0', f1', Own.nil _ _⟩
    have bA : Below w.heap.size w ((w1.alloc (.cells #[.slice none 0 0, .int .i64 0] 57)).alloc (.cells (intsV P) 3)) := (hsz.alloc hsz.size _).alloc (by rw [World.size_alloc]; have := hsz.size; omega) _
    have zA : ((w1.alloc (.cells #[.slice none 0 0, .int .i64 0] 57)).alloc (.cells (intsV P) 3)).heap.size = w1.heap.size + 2 := by rw [World.size_alloc, World.size_alloc]
    have hs1 := hsz.size
    generalize (w1.alloc (.cells #[.slice none 0 0, .int .i64 0] 57)).alloc (.cells (intsV P) 3) = wA at *
    generalize w1.heap.size = g at *
    have HB := hid bA
    have HWs := hid hs1
    have HZ := hid zA
    clear b1 k1 q0 q1 q2 q3 q4 q5 q6 q7 k0 b0 WZ W0 hsz bA hs1 zA
    go_loopw [34] (fun iv wr => ∃ i : Nat, iv = .int .i64 i ∧ i ≤ 8 ∧ WrAt wr (g + 2) g (numsB (P.take i)) 0 ∧ Hid (wr.heap[g + 1]? = some (.cells (intsV P) 3 (0, 0))) ∧ Hid (g + 2 ≤ wr.heap.size ∧ Below w.heap.size w wr)) (fun iv _ => 8 - (intOf iv).toNat)
    case atStart => exact ⟨0, rfl, by omega, W1, hid rI, hid ⟨Nat.le_of_eq HZ.out.symm, HB.out⟩⟩
    case round =>
      obtain ⟨i, rfl, hi, Wr, HR, HBw⟩ := hrel
      by_cases hLt : i < 8
      · have hil : (i : Int) < 8 := by omega
        have hPl : i < P.length := by rw [HP8.out]; exact hLt
        have cI := ints_cell HR.out hPl
        have hn0 := (HOK.out P[i] (List.getElem_mem hPl)).1
        have hn1 := (HOK.out P[i] (List.getElem_mem hPl)).2
        have hN := Number_yes P[i] wr hn0 (by omega)
        have hT := numsB_take hPl
        have hlb : (numsB (P.take i)).length ≤ 64 := by
          have := numsB_len (P.take i) (fun n hn => by have := HOK.out n (List.mem_of_mem_take hn); omega)
          have := List.length_take_le i P
          omega
        have hnb : (num (P[i]).toNat).length ≤ 8 := num_bd (by omega)
        have HL := hid hLt
        have HT := hid hT
        generalize P[i] = nn at *
        clear hT hLt
        have HF : Hid (∀ w3, WrAt w3 (g + 2) g (numsB (P.take i) ++ num nn.toNat) 0 → WrAt w3 (g + 2) g (numsB (P.take (i + 1))) 0) := hid (fun w3 h => by rw [HT.out]; exact h)
        clear HT
        generalize numsB (P.take i) = L0 at *
        go_wp2_with (first
          | (go_at_call 25; refine hN.mono ?_; rintro e w2 ⟨v2, rfl, o2, b2⟩; obtain ⟨A2, c2, rfl, _, _⟩ := id o2.rd; have Wr2 := WrAt.below Wr b2; have hE := Eadd_fr (g + 2) g L0 (num nn.toNat) _ w2 Wr2 o2.rd (by omega) (Nat.le_trans HBw.out.1 b2.size); clear hN)
          | (go_at_call 24; refine hE.mono ?_; rintro e w3 ⟨rfl, W3, t3⟩; clear hE))
        go_roundw
        case rel =>
          have hg2 := HBw.out.1
          refine ⟨i + 1, by go_num, by have := HL.out; omega, HF.out _ W3, hid (t3.row ((b2.block _ (by omega)).trans HR.out) (by omega)), hid ⟨by have := b2.size; have := t3.size; omega, ?_⟩⟩
          exact (HBw.out.2.trans (b2.mono HBw.out.2.size)).trans (t3.to_below (fun j hj => by have := HWs.out; omega) (by have := HBw.out.2.size; have := b2.size; omega))
        case measure => have := HL.out; simp [intOf]; omega
      · have hie : i = 8 := by omega
        subst hie
        have hD := Edone_is (g + 2) g _ wr Wr
        rw [← HP.out] at hD
        obtain ⟨mb, hmb⟩ : ∃ mb, mb = metaB x := ⟨_, rfl⟩
        rw [← hmb] at hD
        have HM := hid hmb
        clear hmb HP
        clear hLt Wr
        go_wp2_with (go_at_call 26; refine hD.mono ?_; rintro e w2 ⟨v2, rfl, o2, rfl⟩; obtain ⟨A2, c2, rfl, _, _⟩ := id o2.rd; clear hD)
        go_ret2
        have hm := HM.out
        subst hm
        exact ⟨_, rfl, Own.mono (B := g + 2) (B' := w.heap.size) o2 (by have := HWs.out; omega), HBw.out.2⟩
end Go.Proofs.Ytddbmibpnahmnaa
