/-
  What the reference's Parse of labels answers: what rparseS says, sorted. Conditions: the text's size as the theorem names.
-/
import Derived.Test.YthgmmloocdfphaaGreatDoorRPars0
namespace Go.Proofs.YthgmmloocdfphaaGreatDoor
open Go.RowKit Go.Icz

theorem IsOut.rest {x : UInt8} {s : ByteArray} {a a' : Nat} {b : Bool} {t : B8} (h : IsOut x s a b a') (e : s.data.toList.drop a = x :: t) : s.data.toList.drop a' = t := by
  rcases h with ⟨_, h⟩ | ⟨_, h, _⟩
  · rw [e] at h; injection h with _ h; exact h.symm
  · exact absurd e (h t)
theorem IsOut.disj {x : UInt8} {s : ByteArray} {a a' : Nat} {b : Bool} (h : IsOut x s a b a') : (b = true ∧ s.data.toList.drop a = x :: s.data.toList.drop a') ∨ (b = false ∧ (∀ t, s.data.toList.drop a ≠ x :: t) ∧ s.data.toList.drop a' = s.data.toList.drop a) := by
  rcases h with h | ⟨h1, h2, h3⟩
  · exact .inl h
  · exact .inr ⟨h1, h2, by rw [h3]⟩
set_option maxHeartbeats 8000000 in
set_option maxRecDepth 100000 in
theorem R2Parse_is (s : ByteArray) (w : World) (hs : s.size ≤ 140737488355200) : Calls Tryz.prog 12 #[.string s] w (RParseOut (rparseS s.data.toList) w) := by
  have t0 := True.intro
  go_enter Tryz.func12, Tryz.ntmps12
  go_wp2_with (first
    | (clear t0; go_at_call 36; refine (Blanks_h w.heap.size 0 s _ (ScanAt.new w s 73) hs).mono ?_; rintro e w1 ⟨rfl, g1, a1, A1, q1⟩; have c1 : Below w.heap.size w w1 := below_far ((Below.refl _ w).alloc (Nat.le_refl _) _) g1 (Nat.le_refl _) (Nat.le_refl _); clear g1; have t1 := True.intro)
    | (clear t1; go_at_call 37; refine (Is_h 123 123 rfl w.heap.size a1 s _ A1 hs).mono ?_; rintro e w2 ⟨g2, b0, a2, rfl, A2, I2⟩; have c2 := below_far c1 g2 (Nat.le_refl _) (Nat.le_refl _); clear g2 A1 c1))
  have HS0 : Hid (RState s.data.toList (s.data.toList.drop a2) [] b0 true) := hid (by
    have h1 := q1.out
    rw [List.drop_zero] at h1
    refine ⟨fun _ => (by simp), (by simp), fun hb _ => ⟨s.data.toList.length + 1, ?_, ?_⟩, fun _ h => (by cases h), fun hb => ?_⟩
    · have := rest_le (s := s) (a := a2); rw [size_len]; omega
    · rcases I2.disj with ⟨_, h⟩ | ⟨h, _⟩
      · rw [rparse_fin, ← h1, h]; rfl
      · rw [hb] at h; cases h
    · rcases I2.disj with ⟨h, _⟩ | ⟨_, hn, _⟩
      · rw [hb] at h; cases h
      · rw [rparse_fin, ← h1]
        split
        · rename_i t ht; exact absurd ht (hn t)
        · rfl)
  clear q1 I2
  go_loopw [5, 6, 7] (fun lv okv mv wr => ∃ (a : Nat) (acc : List Lab) (ok more : Bool), okv = .bool ok ∧ mv = .bool more ∧ ScanAt wr w.heap.size s a ∧ OwnL wr (w.heap.size + 1) lv acc ∧ Below w.heap.size w wr ∧ Hid (RState s.data.toList (s.data.toList.drop a) acc ok more) ∧ Hid (∀ x ∈ acc, x.1.length ≤ s.size ∧ x.2.length ≤ s.size)) (fun _ okv mv wr => roundsLeft okv mv (s.size - placeOf wr w.heap.size))
  case atStart => exact ⟨a2, [], b0, true, rfl, rfl, A2, OwnL.nil _ _, c2, HS0, hid (by simp)⟩
  case round =>
    clear A2 c2 HS0
    obtain ⟨a, acc, ok, more, rfl, rfl, hA, hown, hbw, HS, hz⟩ := hrel
    cases ok with
    | true =>
      cases more with
      | true =>
        have hpl0 := hA.place
        have hzl : acc.length ≤ 16 := HS.out.1 rfl
        have hrd := hown.rd
        obtain ⟨A, c, rfl, hc, _⟩ := hrd
        have t1 := True.intro
        by_cases h61 : ∃ r4, trimL ((trimL (s.data.toList.drop a)).dropWhile wordch) = 61 :: r4
        · obtain ⟨r4, h61⟩ := h61
          cases hqt : runquoteS (trimL r4) with
          | none =>
            go_wp2_with (first
              | (clear t1; go_at_call 36; refine (Blanks_h w.heap.size a s _ hA hs).mono ?_; rintro e w1 ⟨rfl, g1, a1, A1, q1⟩; have c1 := below_far hbw g1 (Nat.le_refl _) (Nat.le_refl _); have o1 := hown.off g1 (Nat.lt_succ_self _); clear hA hown hbw g1; have t2 := True.intro)
              | (clear t2; go_at_call 38; refine (Word_h w.heap.size a1 s _ A1 hs).mono ?_; rintro e w2 ⟨nm, a2, rfl, g2, A2, znm, q2⟩; have c2 := below_far c1 g2 (Nat.le_refl _) (Nat.le_refl _); have o2 := o1.off g2 (Nat.lt_succ_self _); have n2 := fun k hk => (World.ownsRow.lt o2 k hk).2; have z2 := A2.1; clear A1 c1 o1 g2; have t3 := True.intro)
              | (clear t3; go_at_call 36; refine (Blanks_h w.heap.size a2 s _ (A2.alloc _) hs).mono ?_; rintro e w3 ⟨rfl, g3, a3, A3, q3⟩; have hk3 := grownNew g3 z2; have c3 := below_far (c2.alloc (by omega) _) g3 (Nat.le_refl _) (Nat.le_refl _); have o3 := (o2.alloc _).off g3 (Nat.lt_succ_self _); clear A2 c2 o2 g3; have t4 := True.intro)
              | (clear t4; go_at_call 37; refine (Is_h 61 61 rfl w.heap.size a3 s _ A3 hs).mono ?_; rintro e w4 ⟨g4, b1, a4, rfl, A4, I4⟩; obtain rfl : b1 = true := I4.yes (by rw [q3.out, q2.out.2, q1.out]; exact h61); have i4 := hid (I4.rest (by rw [q3.out, q2.out.2, q1.out]; exact h61)); have hk4 := row_far hk3 g4 (by omega); have c4 := below_far c3 g4 (Nat.le_refl _) (Nat.le_refl _); have o4 := o3.off g4 (Nat.lt_succ_self _); clear A3 c3 o3 g4 hk3; have t5 := True.intro)
              | (clear t5; go_at_call 36; refine (Blanks_h w.heap.size a4 s _ A4 hs).mono ?_; rintro e w5 ⟨rfl, g5, a5, A5, q5⟩; have hk5 := row_far hk4 g5 (by omega); have c5 := below_far c4 g5 (Nat.le_refl _) (Nat.le_refl _); have o5 := o4.off g5 (Nat.lt_succ_self _); clear A4 c4 o4 g5 hk4; have t6 := True.intro)
              | (clear t6; go_at_call 39; refine (Quoted_h w.heap.size a5 s _ A5 hs).mono ?_; rintro e w6 ⟨g6, v, is, a6, rfl, A6, zv, Q6⟩; obtain rfl : is = false := Q6.no (by rw [q5.out, i4.out]; exact hqt); have hk6 := row_far hk5 g6 (by omega); have c6 := below_far c5 g6 (Nat.le_refl _) (Nat.le_refl _); have o6 := o5.off g6 (Nat.lt_succ_self _); have p0 := held_cell (i := 0) hk6 rfl; have p1 := held_cell (i := 1) hk6 rfl; have ff := held_frozen (i := 1) hk6; have ff0 := held_frozen (i := 0) hk6; have z6 := A6.1; clear A5 c5 o5 g6 hk5 hk6; have t7 := True.intro)
              | (clear t7; at_builtin; refine wp_appL rfl (.tmp 49) (.tmp 51) rfl (w.heap.size + 1) _ _ acc [(nm, v)] rfl ((o6.away (gset w6 w2.heap.size 1 (.string ⟨v.toArray⟩)) n2).alloc _) rfl (rd_set1 w6 w2.heap.size (.string ⟨v.toArray⟩) (nm, v)) (by simp; omega) (by simp; omega) ?_; intro v7 w7 o7 b7 _; have b8 : Below (w.heap.size + 1) w6 w7 := ((Below.refl (w.heap.size + 1) w6).setCell (p := ⟨w2.heap.size, 1, none⟩) z2 _).trans (below_alloc (by simp; omega) b7); have A7 := A6.belowB b8 (Nat.lt_succ_self _); have c7 := c6.trans (b8.mono (Nat.le_succ _)); clear A6 c6 o6 b7 b8 p0 p1 ff ff0; have t8 := True.intro)
              | (clear t8; go_at_call 36; refine (Blanks_h w.heap.size a6 s _ A7 hs).mono ?_; rintro e w8 ⟨rfl, g8, a7, A8, q7⟩; have c8 := below_far c7 g8 (Nat.le_refl _) (Nat.le_refl _); have o8 := o7.off g8 (Nat.lt_succ_self _); clear A7 c7 o7 g8; have t9 := True.intro)
              | (clear t9; go_at_call 37; refine (Is_h 44 44 rfl w.heap.size a7 s _ A8 hs).mono ?_; rintro e w9 ⟨g9, b2, a8, rfl, A9, I8⟩; have c9 := below_far c8 g9 (Nat.le_refl _) (Nat.le_refl _); have o9 := o8.off g9 (Nat.lt_succ_self _); clear A8 c8 o8 g9))
            have HN := RState.next (v := v) (b1 := true) (is := false) (b2 := b2) HS.out q1.out q2.out.2 q3.out I4.disj q5.out Q6 q7.out I8.disj
            rw [← q2.out.1] at HN
            have hpl := A9.place
            have HN1 := hid HN.1
            have HN2 := hid HN.2
            clear HN q1 q2 q3 I4 i4 q5 Q6 q7 I8 HS
            go_roundw
            case rel => exact ⟨a8, acc ++ [(nm, v)], _, b2, rfl, rfl, A9, o9, c9, HN1, hid (fun x hx => by rcases List.mem_append.1 hx with h | h; exact hz.out x h; obtain rfl := List.mem_singleton.1 h; exact ⟨znm, zv⟩)⟩
            case measure => cases b2 <;> simp [roundsLeft]
          | some y =>
            obtain ⟨vq, nq⟩ := y
            by_cases h16 : acc.length < 16
            · have h16' : (acc.length : Int) < 16 := by omega
              go_wp2_with (first
                | (clear t1; go_at_call 36; refine (Blanks_h w.heap.size a s _ hA hs).mono ?_; rintro e w1 ⟨rfl, g1, a1, A1, q1⟩; have c1 := below_far hbw g1 (Nat.le_refl _) (Nat.le_refl _); have o1 := hown.off g1 (Nat.lt_succ_self _); clear hA hown hbw g1; have t2 := True.intro)
                | (clear t2; go_at_call 38; refine (Word_h w.heap.size a1 s _ A1 hs).mono ?_; rintro e w2 ⟨nm, a2, rfl, g2, A2, znm, q2⟩; have c2 := below_far c1 g2 (Nat.le_refl _) (Nat.le_refl _); have o2 := o1.off g2 (Nat.lt_succ_self _); have n2 := fun k hk => (World.ownsRow.lt o2 k hk).2; have z2 := A2.1; clear A1 c1 o1 g2; have t3 := True.intro)
                | (clear t3; go_at_call 36; refine (Blanks_h w.heap.size a2 s _ (A2.alloc _) hs).mono ?_; rintro e w3 ⟨rfl, g3, a3, A3, q3⟩; have hk3 := grownNew g3 z2; have c3 := below_far (c2.alloc (by omega) _) g3 (Nat.le_refl _) (Nat.le_refl _); have o3 := (o2.alloc _).off g3 (Nat.lt_succ_self _); clear A2 c2 o2 g3; have t4 := True.intro)
                | (clear t4; go_at_call 37; refine (Is_h 61 61 rfl w.heap.size a3 s _ A3 hs).mono ?_; rintro e w4 ⟨g4, b1, a4, rfl, A4, I4⟩; obtain rfl : b1 = true := I4.yes (by rw [q3.out, q2.out.2, q1.out]; exact h61); have i4 := hid (I4.rest (by rw [q3.out, q2.out.2, q1.out]; exact h61)); have hk4 := row_far hk3 g4 (by omega); have c4 := below_far c3 g4 (Nat.le_refl _) (Nat.le_refl _); have o4 := o3.off g4 (Nat.lt_succ_self _); clear A3 c3 o3 g4 hk3; have t5 := True.intro)
                | (clear t5; go_at_call 36; refine (Blanks_h w.heap.size a4 s _ A4 hs).mono ?_; rintro e w5 ⟨rfl, g5, a5, A5, q5⟩; have hk5 := row_far hk4 g5 (by omega); have c5 := below_far c4 g5 (Nat.le_refl _) (Nat.le_refl _); have o5 := o4.off g5 (Nat.lt_succ_self _); clear A4 c4 o4 g5 hk4; have t6 := True.intro)
                | (clear t6; go_at_call 39; refine (Quoted_h w.heap.size a5 s _ A5 hs).mono ?_; rintro e w6 ⟨g6, v, is, a6, rfl, A6, zv, Q6⟩; obtain rfl : is = true := Q6.yes (by rw [q5.out, i4.out]; exact hqt); have hk6 := row_far hk5 g6 (by omega); have c6 := below_far c5 g6 (Nat.le_refl _) (Nat.le_refl _); have o6 := o5.off g6 (Nat.lt_succ_self _); have p0 := held_cell (i := 0) hk6 rfl; have p1 := held_cell (i := 1) hk6 rfl; have ff := held_frozen (i := 1) hk6; have ff0 := held_frozen (i := 0) hk6; have z6 := A6.1; clear A5 c5 o5 g6 hk5 hk6; have t7 := True.intro)
                | (clear t7; at_builtin; refine wp_appL rfl (.tmp 49) (.tmp 51) rfl (w.heap.size + 1) _ _ acc [(nm, v)] rfl ((o6.away (gset w6 w2.heap.size 1 (.string ⟨v.toArray⟩)) n2).alloc _) rfl (rd_set1 w6 w2.heap.size (.string ⟨v.toArray⟩) (nm, v)) (by simp; omega) (by simp; omega) ?_; intro v7 w7 o7 b7 _; have b8 : Below (w.heap.size + 1) w6 w7 := ((Below.refl (w.heap.size + 1) w6).setCell (p := ⟨w2.heap.size, 1, none⟩) z2 _).trans (below_alloc (by simp; omega) b7); have A7 := A6.belowB b8 (Nat.lt_succ_self _); have c7 := c6.trans (b8.mono (Nat.le_succ _)); clear A6 c6 o6 b7 b8 p0 p1 ff ff0; have t8 := True.intro)
                | (clear t8; go_at_call 36; refine (Blanks_h w.heap.size a6 s _ A7 hs).mono ?_; rintro e w8 ⟨rfl, g8, a7, A8, q7⟩; have c8 := below_far c7 g8 (Nat.le_refl _) (Nat.le_refl _); have o8 := o7.off g8 (Nat.lt_succ_self _); clear A7 c7 o7 g8; have t9 := True.intro)
                | (clear t9; go_at_call 37; refine (Is_h 44 44 rfl w.heap.size a7 s _ A8 hs).mono ?_; rintro e w9 ⟨g9, b2, a8, rfl, A9, I8⟩; have c9 := below_far c8 g9 (Nat.le_refl _) (Nat.le_refl _); have o9 := o8.off g9 (Nat.lt_succ_self _); clear A8 c8 o8 g9))
              have HN := RState.next (v := v) (b1 := true) (is := true) (b2 := b2) HS.out q1.out q2.out.2 q3.out I4.disj q5.out Q6 q7.out I8.disj
              rw [← q2.out.1] at HN
              have hpl := A9.place
              have HN1 := hid HN.1
              have HN2 := hid HN.2
              clear HN q1 q2 q3 I4 i4 q5 Q6 q7 I8 HS
              go_roundw
              case rel => exact ⟨a8, acc ++ [(nm, v)], _, b2, by first | rfl | (simp [h16]; done) | (simp [h16]; omega), rfl, A9, o9, c9, HN1, hid (fun x hx => by rcases List.mem_append.1 hx with h | h; exact hz.out x h; obtain rfl := List.mem_singleton.1 h; exact ⟨znm, zv⟩)⟩
              case measure => (cases b2 with | false => simp [roundsLeft] | true => have h9 := HN2.out (by simp [h16]) rfl; rw [List.length_drop, List.length_drop, size_len] at h9; rw [hpl, hpl0]; show s.size - a8 + 1 < s.size - a + 1; omega)
            · have h16' : ¬ (acc.length : Int) < 16 := by omega
              go_wp2_with (first
                | (clear t1; go_at_call 36; refine (Blanks_h w.heap.size a s _ hA hs).mono ?_; rintro e w1 ⟨rfl, g1, a1, A1, q1⟩; have c1 := below_far hbw g1 (Nat.le_refl _) (Nat.le_refl _); have o1 := hown.off g1 (Nat.lt_succ_self _); clear hA hown hbw g1; have t2 := True.intro)
                | (clear t2; go_at_call 38; refine (Word_h w.heap.size a1 s _ A1 hs).mono ?_; rintro e w2 ⟨nm, a2, rfl, g2, A2, znm, q2⟩; have c2 := below_far c1 g2 (Nat.le_refl _) (Nat.le_refl _); have o2 := o1.off g2 (Nat.lt_succ_self _); have n2 := fun k hk => (World.ownsRow.lt o2 k hk).2; have z2 := A2.1; clear A1 c1 o1 g2; have t3 := True.intro)
                | (clear t3; go_at_call 36; refine (Blanks_h w.heap.size a2 s _ (A2.alloc _) hs).mono ?_; rintro e w3 ⟨rfl, g3, a3, A3, q3⟩; have hk3 := grownNew g3 z2; have c3 := below_far (c2.alloc (by omega) _) g3 (Nat.le_refl _) (Nat.le_refl _); have o3 := (o2.alloc _).off g3 (Nat.lt_succ_self _); clear A2 c2 o2 g3; have t4 := True.intro)
                | (clear t4; go_at_call 37; refine (Is_h 61 61 rfl w.heap.size a3 s _ A3 hs).mono ?_; rintro e w4 ⟨g4, b1, a4, rfl, A4, I4⟩; obtain rfl : b1 = true := I4.yes (by rw [q3.out, q2.out.2, q1.out]; exact h61); have i4 := hid (I4.rest (by rw [q3.out, q2.out.2, q1.out]; exact h61)); have hk4 := row_far hk3 g4 (by omega); have c4 := below_far c3 g4 (Nat.le_refl _) (Nat.le_refl _); have o4 := o3.off g4 (Nat.lt_succ_self _); clear A3 c3 o3 g4 hk3; have t5 := True.intro)
                | (clear t5; go_at_call 36; refine (Blanks_h w.heap.size a4 s _ A4 hs).mono ?_; rintro e w5 ⟨rfl, g5, a5, A5, q5⟩; have hk5 := row_far hk4 g5 (by omega); have c5 := below_far c4 g5 (Nat.le_refl _) (Nat.le_refl _); have o5 := o4.off g5 (Nat.lt_succ_self _); clear A4 c4 o4 g5 hk4; have t6 := True.intro)
                | (clear t6; go_at_call 39; refine (Quoted_h w.heap.size a5 s _ A5 hs).mono ?_; rintro e w6 ⟨g6, v, is, a6, rfl, A6, zv, Q6⟩; obtain rfl : is = true := Q6.yes (by rw [q5.out, i4.out]; exact hqt); have hk6 := row_far hk5 g6 (by omega); have c6 := below_far c5 g6 (Nat.le_refl _) (Nat.le_refl _); have o6 := o5.off g6 (Nat.lt_succ_self _); have p0 := held_cell (i := 0) hk6 rfl; have p1 := held_cell (i := 1) hk6 rfl; have ff := held_frozen (i := 1) hk6; have ff0 := held_frozen (i := 0) hk6; have z6 := A6.1; clear A5 c5 o5 g6 hk5 hk6; have t7 := True.intro)
                | (clear t7; at_builtin; refine wp_appL rfl (.tmp 49) (.tmp 51) rfl (w.heap.size + 1) _ _ acc [(nm, v)] rfl ((o6.away (gset w6 w2.heap.size 1 (.string ⟨v.toArray⟩)) n2).alloc _) rfl (rd_set1 w6 w2.heap.size (.string ⟨v.toArray⟩) (nm, v)) (by simp; omega) (by simp; omega) ?_; intro v7 w7 o7 b7 _; have b8 : Below (w.heap.size + 1) w6 w7 := ((Below.refl (w.heap.size + 1) w6).setCell (p := ⟨w2.heap.size, 1, none⟩) z2 _).trans (below_alloc (by simp; omega) b7); have A7 := A6.belowB b8 (Nat.lt_succ_self _); have c7 := c6.trans (b8.mono (Nat.le_succ _)); clear A6 c6 o6 b7 b8 p0 p1 ff ff0; have t8 := True.intro)
                | (clear t8; go_at_call 36; refine (Blanks_h w.heap.size a6 s _ A7 hs).mono ?_; rintro e w8 ⟨rfl, g8, a7, A8, q7⟩; have c8 := below_far c7 g8 (Nat.le_refl _) (Nat.le_refl _); have o8 := o7.off g8 (Nat.lt_succ_self _); clear A7 c7 o7 g8; have t9 := True.intro)
                | (clear t9; go_at_call 37; refine (Is_h 44 44 rfl w.heap.size a7 s _ A8 hs).mono ?_; rintro e w9 ⟨g9, b2, a8, rfl, A9, I8⟩; have c9 := below_far c8 g9 (Nat.le_refl _) (Nat.le_refl _); have o9 := o8.off g9 (Nat.lt_succ_self _); clear A8 c8 o8 g9))
              have HN := RState.next (v := v) (b1 := true) (is := true) (b2 := b2) HS.out q1.out q2.out.2 q3.out I4.disj q5.out Q6 q7.out I8.disj
              rw [← q2.out.1] at HN
              have hpl := A9.place
              have HN1 := hid HN.1
              have HN2 := hid HN.2
              clear HN q1 q2 q3 I4 i4 q5 Q6 q7 I8 HS
              go_roundw
              case rel => exact ⟨a8, acc ++ [(nm, v)], _, b2, by first | rfl | (simp [h16]; done) | (simp [h16]; omega), rfl, A9, o9, c9, HN1, hid (fun x hx => by rcases List.mem_append.1 hx with h | h; exact hz.out x h; obtain rfl := List.mem_singleton.1 h; exact ⟨znm, zv⟩)⟩
              case measure => (rw [show decide ((acc.length : Int) < 16) = false from decide_eq_false (by omega)]; cases b2 <;> simp [roundsLeft])
        · have h61 : ∀ t, trimL ((trimL (s.data.toList.drop a)).dropWhile wordch) ≠ 61 :: t := fun t ht => h61 ⟨t, ht⟩
          go_wp2_with (first
            | (clear t1; go_at_call 36; refine (Blanks_h w.heap.size a s _ hA hs).mono ?_; rintro e w1 ⟨rfl, g1, a1, A1, q1⟩; have c1 := below_far hbw g1 (Nat.le_refl _) (Nat.le_refl _); have o1 := hown.off g1 (Nat.lt_succ_self _); clear hA hown hbw g1; have t2 := True.intro)
            | (clear t2; go_at_call 38; refine (Word_h w.heap.size a1 s _ A1 hs).mono ?_; rintro e w2 ⟨nm, a2, rfl, g2, A2, znm, q2⟩; have c2 := below_far c1 g2 (Nat.le_refl _) (Nat.le_refl _); have o2 := o1.off g2 (Nat.lt_succ_self _); have n2 := fun k hk => (World.ownsRow.lt o2 k hk).2; have z2 := A2.1; clear A1 c1 o1 g2; have t3 := True.intro)
            | (clear t3; go_at_call 36; refine (Blanks_h w.heap.size a2 s _ (A2.alloc _) hs).mono ?_; rintro e w3 ⟨rfl, g3, a3, A3, q3⟩; have hk3 := grownNew g3 z2; have c3 := below_far (c2.alloc (by omega) _) g3 (Nat.le_refl _) (Nat.le_refl _); have o3 := (o2.alloc _).off g3 (Nat.lt_succ_self _); clear A2 c2 o2 g3; have t4 := True.intro)
            | (clear t4; go_at_call 37; refine (Is_h 61 61 rfl w.heap.size a3 s _ A3 hs).mono ?_; rintro e w4 ⟨g4, b1, a4, rfl, A4, I4⟩; obtain rfl : b1 = false := I4.no (by rw [q3.out, q2.out.2, q1.out]; exact h61); have i4 := True.intro; have hk4 := row_far hk3 g4 (by omega); have c4 := below_far c3 g4 (Nat.le_refl _) (Nat.le_refl _); have o4 := o3.off g4 (Nat.lt_succ_self _); clear A3 c3 o3 g4 hk3; have t5 := True.intro)
            | (clear t5; go_at_call 36; refine (Blanks_h w.heap.size a4 s _ A4 hs).mono ?_; rintro e w5 ⟨rfl, g5, a5, A5, q5⟩; have hk5 := row_far hk4 g5 (by omega); have c5 := below_far c4 g5 (Nat.le_refl _) (Nat.le_refl _); have o5 := o4.off g5 (Nat.lt_succ_self _); clear A4 c4 o4 g5 hk4; have t6 := True.intro)
            | (clear t6; go_at_call 39; refine (Quoted_h w.heap.size a5 s _ A5 hs).mono ?_; rintro e w6 ⟨g6, v, is, a6, rfl, A6, zv, Q6⟩; have tq := True.intro; have hk6 := row_far hk5 g6 (by omega); have c6 := below_far c5 g6 (Nat.le_refl _) (Nat.le_refl _); have o6 := o5.off g6 (Nat.lt_succ_self _); have p0 := held_cell (i := 0) hk6 rfl; have p1 := held_cell (i := 1) hk6 rfl; have ff := held_frozen (i := 1) hk6; have ff0 := held_frozen (i := 0) hk6; have z6 := A6.1; clear A5 c5 o5 g6 hk5 hk6; have t7 := True.intro)
            | (clear t7; at_builtin; refine wp_appL rfl (.tmp 49) (.tmp 51) rfl (w.heap.size + 1) _ _ acc [(nm, v)] rfl ((o6.away (gset w6 w2.heap.size 1 (.string ⟨v.toArray⟩)) n2).alloc _) rfl (rd_set1 w6 w2.heap.size (.string ⟨v.toArray⟩) (nm, v)) (by simp; omega) (by simp; omega) ?_; intro v7 w7 o7 b7 _; have b8 : Below (w.heap.size + 1) w6 w7 := ((Below.refl (w.heap.size + 1) w6).setCell (p := ⟨w2.heap.size, 1, none⟩) z2 _).trans (below_alloc (by simp; omega) b7); have A7 := A6.belowB b8 (Nat.lt_succ_self _); have c7 := c6.trans (b8.mono (Nat.le_succ _)); clear A6 c6 o6 b7 b8 p0 p1 ff ff0; have t8 := True.intro)
            | (clear t8; go_at_call 36; refine (Blanks_h w.heap.size a6 s _ A7 hs).mono ?_; rintro e w8 ⟨rfl, g8, a7, A8, q7⟩; have c8 := below_far c7 g8 (Nat.le_refl _) (Nat.le_refl _); have o8 := o7.off g8 (Nat.lt_succ_self _); clear A7 c7 o7 g8; have t9 := True.intro)
            | (clear t9; go_at_call 37; refine (Is_h 44 44 rfl w.heap.size a7 s _ A8 hs).mono ?_; rintro e w9 ⟨g9, b2, a8, rfl, A9, I8⟩; have c9 := below_far c8 g9 (Nat.le_refl _) (Nat.le_refl _); have o9 := o8.off g9 (Nat.lt_succ_self _); clear A8 c8 o8 g9))
          have HN := RState.next (v := v) (b1 := false) (is := is) (b2 := b2) HS.out q1.out q2.out.2 q3.out I4.disj q5.out Q6 q7.out I8.disj
          rw [← q2.out.1] at HN
          have hpl := A9.place
          have HN1 := hid HN.1
          have HN2 := hid HN.2
          clear HN q1 q2 q3 I4 i4 q5 Q6 q7 I8 HS
          go_roundw
          case rel => exact ⟨a8, acc ++ [(nm, v)], _, b2, rfl, rfl, A9, o9, c9, HN1, hid (fun x hx => by rcases List.mem_append.1 hx with h | h; exact hz.out x h; obtain rfl := List.mem_singleton.1 h; exact ⟨znm, zv⟩)⟩
          case measure => cases b2 <;> simp [roundsLeft]
      | false =>
        have HP : Hid (rparseS s.data.toList = rfin (some (acc, s.data.toList.drop a))) := hid (HS.out.2.2.2.1 rfl rfl)
        have hrd := hown.rd
        have t1 := True.intro
        by_cases h125 : ∃ u, s.data.toList.drop a = 125 :: u
        · obtain ⟨u, h125⟩ := h125
          by_cases hu : trimL u = []
          · have HN : Hid (rparseS s.data.toList = some acc) := hid (by rw [HP.out, h125]; exact if_pos hu)
            have hSo := fun w' (b : Below wr.heap.size wr w') => RefSort_is _ acc w' (hrd.below b) (fun x hx => by have := hz.out x hx; omega)
            clear HP HS
            go_wp2_with (first
              | (clear t1; go_at_call 37; refine (Is_h 125 125 rfl w.heap.size a s _ hA hs).mono ?_; rintro e w4 ⟨g4, b1, a4, rfl, A4, I4⟩; obtain rfl : b1 = true := I4.yes h125; have i4 := hid (I4.rest h125); have c4 := below_far hbw g4 (Nat.le_refl _) (Nat.le_refl _); have o4 := hown.off g4 (Nat.lt_succ_self _); clear g4 hA I4; have t2 := True.intro)
              | (clear t2; go_at_call 36; refine (Blanks_h w.heap.size a4 s _ A4 hs).mono ?_; rintro e w5 ⟨rfl, g5, a5, A5, q5⟩; have c5 := below_far c4 g5 (Nat.le_refl _) (Nat.le_refl _); have o5 := o4.off g5 (Nat.lt_succ_self _); have p1 := A5.2.2.2.1; have e5 : a5 = s.size := (by have h1 := q5.out; rw [i4.out, hu] at h1; have h2 := congrArg List.length h1; rw [List.length_drop, size_len] at h2; have h3 := A5.2.1; simp at h2; omega); have d5 : ((a5 : Int) != s.size) = false := (by rw [e5]; simp); clear g5 A4 i4 q5 e5))
            refine (RefSort_is _ acc w5 o5.rd (fun x hx => by have := hz.out x hx; omega)).mono ?_
            rintro e w6 ⟨h3 | ⟨d, hd, h3 | h3⟩, b6⟩
            · obtain ⟨h3, rfl⟩ := h3
              go_wp2
              go_ret2
              rw [HN.out]
              exact ⟨.inl ⟨h3, rfl⟩, c5.trans (b6.mono c5.size)⟩
            · obtain ⟨h3, v, rfl, h4⟩ := h3
              go_wp2
              go_ret2
              rw [HN.out]
              exact ⟨.inr ⟨d, hd, .inl ⟨h3, v, rfl, h4⟩⟩, c5.trans (b6.mono c5.size)⟩
            · obtain ⟨h3, rfl⟩ := h3
              go_wp2
              go_ret2
              rw [HN.out]
              exact ⟨.inr ⟨d, hd, .inr ⟨h3, rfl⟩⟩, c5.trans (b6.mono c5.size)⟩
          · have HN : Hid (rparseS s.data.toList = none) := hid (by rw [HP.out, h125]; exact if_neg hu)
            clear HP HS
            go_wp2_with (first
              | (clear t1; go_at_call 37; refine (Is_h 125 125 rfl w.heap.size a s _ hA hs).mono ?_; rintro e w4 ⟨g4, b1, a4, rfl, A4, I4⟩; obtain rfl : b1 = true := I4.yes h125; have i4 := hid (I4.rest h125); have c4 := below_far hbw g4 (Nat.le_refl _) (Nat.le_refl _); clear g4 hA I4; have t2 := True.intro)
              | (clear t2; go_at_call 36; refine (Blanks_h w.heap.size a4 s _ A4 hs).mono ?_; rintro e w5 ⟨rfl, g5, a5, A5, q5⟩; have c5 := below_far c4 g5 (Nat.le_refl _) (Nat.le_refl _); have p1 := A5.2.2.2.1; have e5 : a5 ≠ s.size := (fun e => hu (by have h1 := q5.out; rw [i4.out, e, List.drop_of_length_le (by rw [size_len]; exact Nat.le_refl _)] at h1; exact h1.symm)); have d5 : ((a5 : Int) != s.size) = true := (by simp; omega); clear g5 A4 i4 q5 e5))
            go_ret2
            exact ⟨by rw [HN.out]; rfl, c5⟩
        · have HN : Hid (rparseS s.data.toList = none) := hid (by
            rw [HP.out]; unfold rfin
            split
            · rename_i h; injection h with h; injection h with h1 h2; exact absurd ⟨_, h2⟩ h125
            · rfl)
          have h125 : ∀ t, s.data.toList.drop a ≠ 125 :: t := fun t ht => h125 ⟨t, ht⟩
          clear HP HS
          go_wp2_with (first
            | (clear t1; go_at_call 37; refine (Is_h 125 125 rfl w.heap.size a s _ hA hs).mono ?_; rintro e w4 ⟨g4, b1, a4, rfl, A4, I4⟩; obtain rfl : b1 = false := I4.no h125; have c4 := below_far hbw g4 (Nat.le_refl _) (Nat.le_refl _); clear g4 hA I4; have t2 := True.intro)
            | (clear t2; go_at_call 36; refine (Blanks_h w.heap.size a4 s _ A4 hs).mono ?_; rintro e w5 ⟨rfl, g5, a5, A5, q5⟩; have c5 := below_far c4 g5 (Nat.le_refl _) (Nat.le_refl _); clear g5 A4 q5))
          go_ret2
          exact ⟨by rw [HN.out]; rfl, c5⟩
    | false =>
      have HN : Hid (rparseS s.data.toList = none) := hid (HS.out.2.2.2.2 rfl)
      clear HS
      cases more with
      | true =>
        go_wp2_with (go_at_call 36; refine (Blanks_h w.heap.size a s _ hA hs).mono ?_; rintro e w5 ⟨rfl, g5, a5, A5, q5⟩; have c5 := below_far hbw g5 (Nat.le_refl _) (Nat.le_refl _); clear g5 hA q5)
        go_ret2
        exact ⟨by rw [HN.out]; rfl, c5⟩
      | false =>
        go_wp2_with (go_at_call 36; refine (Blanks_h w.heap.size a s _ hA hs).mono ?_; rintro e w5 ⟨rfl, g5, a5, A5, q5⟩; have c5 := below_far hbw g5 (Nat.le_refl _) (Nat.le_refl _); clear g5 hA q5)
        go_ret2
        exact ⟨by rw [HN.out]; rfl, c5⟩
end Go.Proofs.YthgmmloocdfphaaGreatDoor
