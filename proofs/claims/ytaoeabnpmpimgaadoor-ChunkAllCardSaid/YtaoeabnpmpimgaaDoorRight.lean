/-
  What label.Value and label.Right answer. Conditions: the tables of package utf8 are in place; sizes as each theorem names.
-/
import Derived.Test.YtaoeabnpmpimgaaDoorFacts
namespace Go.Proofs.YtaoeabnpmpimgaaDoor
open Go.RowKit Go.Icz

theorem Value_is (s : ByteArray) (w : World) (hs : s.size ≤ 9223372036854775807) (hT : Tabs w) :
    Calls Tryd.prog 65 #[.string s] w fun e w' => e = .returned (.bool (valueS s.data.toList)) ∧ Below w.heap.size w w' := by
  have hV := Tryd.utf8_ValidString s w hs hT.utf8
  have hl := size_len s
  by_cases h1 : 1 ≤ s.size
  · by_cases h2 : s.size ≤ 128
    · have HV : Hid (valueS s.data.toList = Lib.validD s.data.toList) := hid (by unfold valueS; rw [hl, decide_eq_true (And.intro h1 h2), Bool.true_and])
      generalize Lib.validD s.data.toList = v at hV HV
      clear hl hT
      go_enter Tryd.func65, Tryd.ntmps65
      go_wp2_with (go_at_call 80; refine hV.mono ?_; rintro e w' ⟨rfl, bel⟩)
      go_ret
      rw [HV.out]
      exact ⟨rfl, bel⟩
    · have HV : Hid (valueS s.data.toList = false) := hid (by unfold valueS; rw [hl, decide_eq_false (by omega), Bool.false_and])
      clear hl hT hV
      go_enter Tryd.func65, Tryd.ntmps65
      go_wp2
      go_ret
      rw [HV.out]
      exact ⟨rfl, Below.refl _ _⟩
  · have HV : Hid (valueS s.data.toList = false) := hid (by unfold valueS; rw [hl, decide_eq_false (by omega), Bool.false_and])
    clear hl hT hV
    go_enter Tryd.func65, Tryd.ntmps65
    go_wp2
    go_ret
    rw [HV.out]
    exact ⟨rfl, Below.refl _ _⟩

/-- A label laid in a block of its own, read later. -/
theorem box57 {wr w1 : World} {x y : Value} (b1 : Below (wr.alloc (.cells #[x, y] 65)).heap.size (wr.alloc (.cells #[x, y] 65)) w1) :
    w1.cell? ⟨wr.heap.size, 0, none⟩ = some x ∧ w1.cell? ⟨wr.heap.size, 1, none⟩ = some y ∧ wr.heap.size < w1.heap.size := by
  have hk : w1.heap[wr.heap.size]? = some (.cells #[x, y] 65 (0, 0)) := (b1.block _ (by simp)).trans (heap_alloc_new wr (.cells #[x, y] 65))
  exact ⟨held_cell hk rfl, held_cell hk rfl, Nat.lt_of_lt_of_le (by simp) b1.size⟩
theorem below_push {wr w1 : World} {o : Obj} (b1 : Below (wr.alloc o).heap.size (wr.alloc o) w1) : Below wr.heap.size wr w1 := below_allocT (Nat.le_refl _) (b1.mono (by simp))
set_option maxHeartbeats 1000000 in
set_option maxRecDepth 100000 in
theorem Right_is (v : Value) (l : List Lab) (w : World) (hR : RdL w v l) (hT : Tabs w) (hsz : ∀ x ∈ l, x.1.length ≤ 9223372036854775807 ∧ x.2.length ≤ 9223372036854775807) :
    Calls Tryd.prog 40 #[v] w fun e w' => e = .returned (.bool (rightS l)) ∧ Below w.heap.size w w' := by
  obtain ⟨A, c, rfl, hlc, hcell⟩ := hR
  by_cases h1 : 1 ≤ l.length ∧ l.length ≤ 16
  · have HR : Hid (rightS l = chain none l) := hid (by unfold rightS; rw [decide_eq_true h1, Bool.true_and])
    obtain ⟨b, off, rfl, hb, hcell⟩ := hcell h1.1
    obtain ⟨ha1, ha2⟩ := h1
    go_enter Tryd.func40, Tryd.ntmps40
    go_wp2
    go_loopw [15] (fun v wr => ∃ i : Nat, v = .int .i64 i ∧ i ≤ l.length ∧ Below w.heap.size w wr ∧ Hid (chain none l = chain (if i = 0 then none else some (l.getD (i - 1) ([], [])).1) (l.drop i))) (fun v _ => l.length - (intOf v).toNat)
    case atStart => exact ⟨0, rfl, by omega, Below.refl _ _, hid (by simp)⟩
    case round =>
      obtain ⟨i, rfl, hi, hbw, HC⟩ := hrel
      by_cases hlt : i < l.length
      · have hc0 := (hbw.cell (p := ⟨b, off + i * 2, none⟩) hb).trans (hcell i hlt).1
        have hc1 := (hbw.cell (p := ⟨b, off + i * 2 + 1, none⟩) hb).trans (hcell i hlt).2
        have hszi := hsz l[i] (List.getElem_mem hlt)
        have hN := fun w => Name_is ⟨(l[i]).1.toArray⟩ w (by rw [Lib.size_mk]; exact hszi.1)
        have hV := fun w hT => Value_is ⟨(l[i]).2.toArray⟩ w (by rw [Lib.size_mk]; exact hszi.2) hT
        simp only [] at hN hV
        have hdrop : l.drop i = l[i] :: l.drop (i + 1) := List.drop_eq_getElem_cons hlt
        have hprev : 0 < i → wr.cell? ⟨b, off + (i - 1) * 2, none⟩ = some (.string ⟨((l.getD (i - 1) ([], [])).1).toArray⟩) := fun h0 => by
          have := (hbw.cell (p := ⟨b, off + (i - 1) * 2, none⟩) hb).trans (hcell (i - 1) (by omega)).1
          rw [this]; simp [List.getD, List.getElem?_eq_getElem (show i - 1 < l.length by omega)]
        have hTw := hT.below hbw
        clear hcell hsz
        generalize hx : l[i] = x at *
        generalize l.getD (i - 1) ([], []) = y at *
        obtain ⟨nm, vl⟩ := x
        simp only [] at hc0 hc1 hN hV
        have HD := hid hdrop
        have hbs : b < wr.heap.size := Nat.lt_of_lt_of_le hb hbw.size
        have hal : ∀ o, Below w.heap.size w (wr.alloc o) := fun o => hbw.alloc hbw.size o
        have hTa : ∀ o, Tabs (wr.alloc o) := fun o => hT.below (hal o)
        cases hn : nameS nm with
        | false =>
          have HF : Hid (rightS l = false) := hid (by rw [HR.out, HC.out, HD.out]; simp [chain, hn])
          rw [hn] at hN
          clear hprev hV
          go_wp2_with (go_at_call 64; refine (hN _).mono ?_; rintro e w1 ⟨rfl, b1⟩)
          go_ret
          rw [HF.out]
          exact ⟨rfl, (hal _).trans (b1.mono (by have := hbw.size; simp; omega))⟩
        | true =>
          rw [hn] at hN
          cases hv : valueS vl with
          | false =>
            have HF : Hid (rightS l = false) := hid (by rw [HR.out, HC.out, HD.out]; simp [chain, hv])
            rw [hv] at hV
            clear hprev
            go_wp2_with (first | (go_at_call 64; refine (hN _).mono ?_; rintro e w1 ⟨rfl, b1⟩; have d0 := (box57 b1).1; have d1 := (box57 b1).2.1; have ds := (box57 b1).2.2; have bp := below_push b1; clear hN) | (go_at_call 65; refine (hV _ (hTw.below bp)).mono ?_; rintro e w2 ⟨rfl, b2⟩; clear hV))
            go_ret
            rw [HF.out]
            exact ⟨rfl, hbw.trans ((bp.trans (b2.mono (by omega))).mono hbw.size)⟩
          | true =>
            rw [hv] at hV
            have e8 := fun (w1 : World) (bp : Below wr.heap.size wr w1) (h0 : 0 < i) => (bp.cell (p := ⟨b, off + (i - 1) * 2, none⟩) hbs).trans (hprev h0)
            clear hprev
            by_cases h0 : i = 0
            · subst h0
              rw [Nat.zero_mul, Nat.add_zero] at hc0 hc1
              clear e8
              go_wp2_with (first | (go_at_call 64; refine (hN _).mono ?_; rintro e w1 ⟨rfl, b1⟩; have d0 := (box57 b1).1; have d1 := (box57 b1).2.1; have ds := (box57 b1).2.2; have bp := below_push b1; clear hN) | (go_at_call 65; refine (hV _ (hTw.below bp)).mono ?_; rintro e w2 ⟨rfl, b2⟩; clear hV))
              go_region
              go_wp2
              go_roundw
              case rel =>
                refine ⟨1, rfl, by omega, hbw.trans (((bp.trans (b2.mono (by omega))).mono hbw.size).drew), hid ?_⟩
                have e := HC.out
                rw [HD.out] at e
                rw [e]
                simp [chain, hn, hv, hx, List.getElem?_eq_getElem hlt]
              case measure => simp [intOf]; omega
            · obtain ⟨j, rfl⟩ : ∃ j, i = j + 1 := ⟨i - 1, by omega⟩
              have e8' := fun w1 bp => e8 w1 bp (by omega)
              rw [Nat.add_sub_cancel] at e8'
              clear e8
              go_wp2_with (first | (go_at_call 64; refine (hN _).mono ?_; rintro e w1 ⟨rfl, b1⟩; have d0 := (box57 b1).1; have d1 := (box57 b1).2.1; have ds := (box57 b1).2.2; have bp := below_push b1; clear hN) | (go_at_call 65; refine (hV _ (hTw.below bp)).mono ?_; rintro e w2 ⟨rfl, b2⟩; clear hV; have d0 := (b2.cell (p := ⟨wr.heap.size, 0, none⟩) ds).trans d0; have hpv := e8' _ (bp.trans (b2.mono (by omega)))))
              clear e8' hc0 hc1 b1 d1
              cases hlt2 : Op.bytesLess y.1 nm with
              | true =>
                go_region
                go_wp2
                go_roundw
                case rel =>
                  refine ⟨j + 1 + 1, by go_num, by omega, hbw.trans (((bp.trans (b2.mono (by omega))).mono hbw.size).drew), hid ?_⟩
                  have e := HC.out
                  rw [HD.out] at e
                  rw [e]
                  simp [chain, hn, hv, hx, hlt2, List.getElem?_eq_getElem hlt]
                case measure => simp [intOf]; omega
              | false =>
                have HF : Hid (rightS l = false) := hid (by rw [HR.out, HC.out, HD.out]; simp [chain, hn, hv, hlt2])
                go_region
                go_wp2
                go_ret
                rw [HF.out]
                exact ⟨rfl, hbw.trans (((bp.trans (b2.mono (by omega))).mono hbw.size).drew)⟩
      · go_wp2
        go_ret
        rw [HR.out, HC.out, List.drop_eq_nil_of_le (by omega)]
        exact ⟨rfl, hbw⟩
  · have HF : Hid (rightS l = false) := hid (by unfold rightS; rw [decide_eq_false h1, Bool.false_and])
    clear hcell
    have h2 : l.length < 1 ∨ 16 < l.length := by omega
    rcases h2 with h2 | h2
    · have h3 : l.length = 0 := by omega
      rw [h3] at hlc ⊢
      go_enter Tryd.func40, Tryd.ntmps40
      go_wp2
      go_ret
      rw [HF.out]
      exact ⟨rfl, Below.refl _ _⟩
    · go_enter Tryd.func40, Tryd.ntmps40
      go_wp2
      go_ret
      rw [HF.out]
      exact ⟨rfl, Below.refl _ _⟩
end Go.Proofs.YtaoeabnpmpimgaaDoor
