/-
  What the reference's Bytes of a number, of a text, of labels answer: bytes in new memory. Conditions: those that each theorem names.
-/
import Derived.Test.YtelabmcghahclaaDoorWrite
import Derived.Test.YtelabmcghahclaaDoorRefRight
import Derived.Deep.RegionHeld3
namespace Go.Proofs.YtelabmcghahclaaDoor
open Go.RowKit Go.Icz
/-- Bytes in new memory, bare. -/
def Bare (w : World) (l : List Nat) (e : Ending) (w' : World) : Prop :=
  ∃ v, e = .returned v ∧ Own w' w.heap.size v l ∧ Below w.heap.size w w'
set_option maxRecDepth 100000 in
set_option maxHeartbeats 400000 in
theorem Bytes_any (n : Nat) (w : World) (h1 : n < 72057594037927936) : Calls Tryd.prog 70 #[.int .i64 (n : Int)] w (Bare w (num n)) := by
  have h8 := num_len8 h1
  go_enter Tryd.func70, Tryd.ntmps70
  go_wp2_with fail
  go_loopw [3, 0] (fun v c wr => ∃ (k : Nat) (l : List Nat), c = .int .i64 k ∧ Own wr w.heap.size v l ∧ k ≤ n ∧ l ++ num k = num n ∧ Below w.heap.size w wr) (fun _ c _ => (intOf c).toNat)
  case atStart => exact ⟨n, [], rfl, Own.nil _ _, by omega, rfl, Below.refl _ _⟩
  case round =>
    obtain ⟨k, l, rfl, hown, hkn, hl, hbel⟩ := hrel
    have hll : l.length ≤ 8 := by have := congrArg List.length hl; simp at this; omega
    have hsz := hbel.size
    have HL := hid hl
    clear hl
    by_cases hk : (127 : Int) < k
    · go_wp2_with (at_builtin; refine wp_app1 std rfl (.tmp 6) (.tmp 11) rfl w.heap.size _ l (k % 128 + 128) rfl hown rfl (by omega) hsz ?_; intro v' w1 hown' hb' _; clear hown)
      go_roundw
      case rel =>
        refine ⟨k / 128, _, by go_num, hown', by omega, ?_, hbel.trans hb'⟩
        have hl := HL.out
        rw [num_hi (by omega)] at hl
        rw [← hl]
        simp
      case measure => simp [intOf]; omega
    · go_wp2_with (at_builtin; refine wp_app1 std rfl (.tmp 15) (.tmp 18) rfl w.heap.size _ l k rfl hown rfl (by omega) hsz ?_; intro v' w1 hown' hb' _; clear hown)
      go_ret
      have hl := HL.out
      rw [num_lo (by omega)] at hl
      exact ⟨_, rfl, by rw [← hl]; exact hown', hbel.trans hb'⟩
theorem TextBytes_any (s : ByteArray) (w : World) (hs : s.size ≤ 65536) : Calls Tryd.prog 68 #[.string s] w (Bare w (txt s)) := by
  have h8 := num_len8 (n := s.size) (by omega)
  have HN := Bytes_any s.size w (by omega)
  go_enter Tryd.func68, Tryd.ntmps68
  go_wp2_with (first | (go_at_call 70; refine HN.mono ?_; rintro e w' ⟨v, rfl, hown, hb⟩) | (at_builtin; refine wp_appS std rfl (.tmp 5) (.tmp 6) rfl w.heap.size _ (num s.size) s rfl hown rfl (by omega) hb.size ?_; intro v' w1 hown' hb'; clear hown))
  go_ret
  exact ⟨_, rfl, hown', hb.trans hb'⟩
set_option maxRecDepth 100000 in
/-- 'append(v, x...)' of bytes, at a step of a region. -/
theorem step_appR {ops : Array Oper} {o : Oper} {a : Act} {K : Act → World → Prop} {Q : Exit → Act → World → Prop} {E : Prop} {w : World} (hgd : o.guard = none) (s x : Operand)
    (ho : o.op = .call { callee := .builtin .append, args := #[s, x], argTypes := #[26, 26] })
    (B : Nat) (v u : Value) (l m : List Nat) (hs : a.eval s = v) (hown : Own w B v l) (hx : a.eval x = u) (hr : Rd w u m)
    (hlen : l.length + m.length ≤ 140737488355328) (hB : B ≤ w.heap.size)
    (h : ∀ v' w', Own w' B v' (l ++ m) → Below B w w' → K (a.put o.dst v') w') :
    if Region.wanted o (yielded ops a.tmps) = true then Oper.wp Tryd.prog o a w K Q else E := by
  have hw : Region.wanted o (yielded ops a.tmps) = true := by simp [Region.wanted, hgd]
  rw [if_pos hw]
  obtain ⟨i0, hi, hz0, hz1, hz2⟩ := info_parts std.i5
  obtain ⟨A, c, rfl, hc, hcell⟩ := hr
  rcases A with _ | ad
  · have hm : m = [] := by
      rcases Nat.eq_zero_or_pos m.length with h0 | h0
      · exact List.eq_nil_of_length_eq_zero h0
      · obtain ⟨b, off, e, _⟩ := hcell h0
        cases e
    subst hm
    unfold Oper.wp execOp
    have hrun : (Builtin.append_ #[26, 26] o.type #[v, .slice none 0 c]).run Tryd.prog w = .ok v w := by
      rcases hown.2 with ⟨rfl, _⟩ | ⟨g, cap, cur, rfl, _, _, hnc, _⟩
      · simp [Builtin.append_, run_underlying std.u45, Go.sizeOf, typeInfo, hi, Builtin.lenOf, Builtin.firstCells]
      · simp [Builtin.append_, run_underlying std.u45, Go.sizeOf, typeInfo, hi, Builtin.lenOf, Builtin.firstCells, hnc, storeCells]
    simp only [ho, resolve, invoke, builtin, Sem.run_bind, Sem.run_pure, Result.andThen_ok, List.map_toArray, List.map_cons, List.map_nil, hs, hx, List.length_nil, hrun]
    exact h v w (by simpa using hown) (Below.refl _ _)
  · refine wp_append_own _ s x 26 ho B 5 i0 (.int .u8 0) 1 1 std.u45 hi hz0 hz1 hz2 rfl (by decide) v l.length (cellsB l) hs hown ad m.length c (cellsB m) hx (by rw [cellsB_len]; omega) ?_ (cellsB_one m) ?_ (by omega) hB ?_
    · intro j u hj
      obtain ⟨hj', rfl⟩ := cellsB_get hj
      obtain ⟨b, off, e, _, hc'⟩ := hcell (by omega)
      injection e with e
      subst e
      rw [add_flat]
      exact hc' j hj'
    · unfold maxLen; omega
    · intro v' w' h1 h2 _
      exact h v' w' (by unfold Own; rw [cellsB_app, List.length_append]; exact h1) ((Below.refl B w).grown h2 hB (fun k hk => (World.ownsRow.lt hown k hk).1))
set_option maxHeartbeats 4000000 in
set_option maxRecDepth 100000 in
theorem BytesOf_is (v : Value) (l : List Lab) (w : World) (hR : RdL w v l) (h16 : l.length ≤ 17) (hal : ∀ x ∈ l, x.1.length ≤ 128 ∧ x.2.length ≤ 128) : Calls Tryd.prog 69 #[v] w (Bare w (bytesN l)) := by
  obtain ⟨A, c, rfl, hlc, hcell⟩ := hR
  have hNu := fun w => Bytes_any l.length w (by omega)
  have hnl := num_len8 (n := l.length) (by omega)
  go_enter Tryd.func69, Tryd.ntmps69
  go_wp2_with (go_at_call 70; refine (hNu _).mono ?_; rintro e w1 ⟨u1, rfl, o1, b1⟩; clear hNu)
  go_loopw [3, 4] (fun bv iv wr => ∃ (i : Nat) (acc : List Nat), iv = .int .i64 i ∧ i ≤ l.length ∧ Own wr w.heap.size bv acc ∧ Below w.heap.size w wr ∧ acc.length ≤ 8 + 300 * i ∧ Hid (bytesN l = acc ++ bytesL (l.drop i))) (fun _ iv _ => l.length - (intOf iv).toNat)
  case atStart => exact ⟨0, num l.length, rfl, by omega, o1, b1, by omega, hid (by simp [bytesN])⟩
  case round =>
    obtain ⟨i, acc, rfl, hi, hown, hbw, hacc, HX⟩ := hrel
    by_cases hlt : i < l.length
    · obtain ⟨b, off, rfl, hb, hcell⟩ := hcell (by omega)
      have hc0 := (hcell i hlt).1
      have hc1 := (hcell i hlt).2
      have hxl := hal l[i] (List.getElem_mem hlt)
      have hdrop : l.drop i = l[i] :: l.drop (i + 1) := List.drop_eq_getElem_cons hlt
      have HX2 : Hid (bytesN l = (acc ++ (txt ⟨(l[i]).1.toArray⟩ ++ txt ⟨(l[i]).2.toArray⟩)) ++ bytesL (l.drop (i + 1))) := hid (by rw [HX.out, hdrop]; simp [bytesL])
      clear hdrop hcell HX hal
      generalize l[i] = x at *
      have hT1 := fun w => TextBytes_any ⟨x.1.toArray⟩ w (by rw [Lib.size_mk]; omega)
      have hT2 := fun w => TextBytes_any ⟨x.2.toArray⟩ w (by rw [Lib.size_mk]; omega)
      have hl1 := txt_len ⟨x.1.toArray⟩ (by rw [Lib.size_mk]; omega)
      have hl2 := txt_len ⟨x.2.toArray⟩ (by rw [Lib.size_mk]; omega)
      obtain ⟨x1, x2⟩ := x
      simp only [] at hc0 hc1 hT1 hT2 hl1 hl2 HX2
      generalize txt ⟨x1.toArray⟩ = t1 at *
      generalize txt ⟨x2.toArray⟩ = t2 at *
      have hlim1 : acc.length + t1.length ≤ 140737488355328 := by omega
      have hlim2 : (acc ++ t1).length + t2.length ≤ 140737488355328 := by simp; omega
      have mkS : ∀ w', Below w.heap.size w w' → Below w.heap.size w w' ∧ w'.cell? ⟨b, off + i * 2, none⟩ = some (.string ⟨x1.toArray⟩) ∧ w'.cell? ⟨b, off + i * 2 + 1, none⟩ = some (.string ⟨x2.toArray⟩) := fun w' h => ⟨h, (h.cell (p := ⟨b, off + i * 2, none⟩) hb).trans hc0, (h.cell (p := ⟨b, off + i * 2 + 1, none⟩) hb).trans hc1⟩
      have hk := mkS wr.drew hbw.drew
      have hown0 : Own wr.drew w.heap.size _ acc := hown
      go_wp2_with fail
      go_region_held3 (fun w' => Below w.heap.size w w' ∧ w'.cell? ⟨b, off + i * 2, none⟩ = some (.string ⟨x1.toArray⟩) ∧ w'.cell? ⟨b, off + i * 2 + 1, none⟩ = some (.string ⟨x2.toArray⟩)) (exact hk)
        (first
          | (go_at_call 68; refine (hT1 _).mono ?_; rintro e w3 ⟨v3, rfl, o3, b3⟩; have own3 := hown0.below b3; have hk := mkS _ (hk.1.trans (b3.mono hk.1.size)); clear hT1 hown0)
          | (refine step_appR rfl (.tmp 14) (.tmp 20) rfl w.heap.size _ _ acc t1 (by simp [Act.eval]) own3 (by simp [Act.eval]) o3.rd hlim1 hk.1.size ?_; intro v4 w4 o4 b4; have hk := mkS _ (hk.1.trans b4); clear own3 o3)
          | (go_at_call 68; refine (hT2 _).mono ?_; rintro e w5 ⟨v5, rfl, o5, b5⟩; have own5 := o4.below b5; have hk := mkS _ (hk.1.trans (b5.mono hk.1.size)); clear hT2 o4)
          | (refine step_appR rfl (.tmp 21) (.tmp 27) rfl w.heap.size _ _ (acc ++ t1) t2 (by simp [Act.eval]) own5 (by simp [Act.eval]) o5.rd hlim2 hk.1.size ?_; intro v6 w6 o6 b6; have hk := mkS _ (hk.1.trans b6); clear own5 o5))
      go_wp2_with fail
      go_roundw
      case rel => exact ⟨i + 1, acc ++ t1 ++ t2, by go_num, by omega, o6, hk.1, by simp; omega, hid (by rw [HX2.out]; simp)⟩
      case measure => simp [intOf]; omega
    · have HE : Hid (bytesN l = acc) := hid (by rw [HX.out, List.drop_eq_nil_of_le (by omega)]; simp [bytesL])
      clear hcell
      go_wp2
      go_ret
      exact ⟨_, rfl, by rw [HE.out]; exact hown, hbw⟩
theorem right_lens {l : List Lab} (hr : rightS l = true) : l.length ≤ 16 ∧ ∀ x ∈ l, x.1.length ≤ 128 ∧ x.2.length ≤ 128 := by
  obtain ⟨h16, hal⟩ := right_all hr
  exact ⟨by simp only [rightS, Bool.and_eq_true, decide_eq_true_eq] at hr; omega, fun x hx => by have := hal x hx; omega⟩
/-- The bytes of labels that may be; an error else. -/
def BytesOut (l : List Lab) (w : World) (e : Ending) (w' : World) : Prop :=
  ∃ v, e = .returned (.tuple #[v, .int .i64 (if rightS l = true then 0 else 30)]) ∧ Rd w' v (if rightS l = true then bytesN l else []) ∧ Below w.heap.size w w'
set_option maxRecDepth 100000 in
theorem LBytes_any (v : Value) (l : List Lab) (w : World) (hR : RdL w v l) (hT : Tabs w) (hsz : ∀ x ∈ l, x.1.length ≤ 9223372036854775807 ∧ x.2.length ≤ 9223372036854775807) :
    Calls Tryd.prog 28 #[v] w (BytesOut l w) := by
  cases hr : rightS l with
  | true =>
    refine (Bytes_is v l w hR hT hr).mono ?_
    rintro e w' ⟨u, rfl, o, b⟩
    unfold BytesOut
    rw [hr, if_pos rfl, if_pos rfl]
    exact ⟨u, rfl, o.rd, b⟩
  | false =>
    have hRt := Right_is v l w hR hT hsz
    have HR := hid hr
    rw [hr] at hRt
    clear hr hsz
    go_enter Tryd.func28, Tryd.ntmps28
    go_wp2_with (go_at_call 64; refine hRt.mono ?_; rintro e w1 ⟨rfl, b1⟩; clear hRt)
    go_ret2
    unfold BytesOut
    rw [HR.out, if_neg (by decide), if_neg (by decide)]
    exact ⟨_, rfl, Rd.nil _, b1⟩
end Go.Proofs.YtelabmcghahclaaDoor
