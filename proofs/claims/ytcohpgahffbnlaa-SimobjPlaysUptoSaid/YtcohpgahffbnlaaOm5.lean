/-
  What a list tells: the keys, each late change taken back, those with that beginning, rising. Conditions: those that each theorem names.
-/
import Derived.Test.YtcohpgahffbnlaaOmk
import Derived.Test.YtcohpgahffbnlaaOdf
namespace Go.Proofs.Ytcohpgahffbnlaa
open Go.RowKit Go.Icz Go.Maps Go.ChangeMaps Go.MapKept Go.Shelf
attribute [local go_sem] Oper.semAt_some
set_option maxRecDepth 100000
set_option maxHeartbeats 4000000
theorem sub_len {α : Type} [DecidableEq α] : ∀ (a b : List α), a.Nodup → (∀ x ∈ a, x ∈ b) → a.length ≤ b.length
  | [], _, _, _ => Nat.zero_le _
  | x :: r, b, hn, h => by
    have hx := h x (by simp)
    rw [List.nodup_cons] at hn
    have := sub_len r (b.erase x) hn.2 (fun y hy => (List.mem_erase_of_ne (fun e : y = x => hn.1 (e ▸ hy))).2 (h y (by simp [hy])))
    rw [List.length_erase_of_mem hx] at this
    have hp := List.length_pos_of_mem hx
    rw [List.length_cons]
    omega
theorem keys_le {β γ : Type} {A : AL β} {B : AL γ} (hA : (akeys A).Nodup) (h : ∀ k, k ∈ akeys A → k ∈ akeys B) : A.length ≤ B.length := by
  have := sub_len _ _ hA h
  unfold akeys at this
  simpa using this
theorem listed_is {w : World} {T : Nat → Prop} {q p bO c : Nat} {cv : Value} {M : SM} (R : Ro w T q p bO cv (keptS M) M) (hwf : WfS M c) (pk : ByteArray) :
    Calls Try.prog 40 #[.pointer (some ⟨p, 0, none⟩), .string pk] w fun e w' => ∃ v, e = .returned v ∧ KS.Own w' w.heap.size v ((rises (listed M pk)).map kb) ∧ Below w.heap.size w w' := by
  refine (callsIn_wide (n := 8)).1 ?_
  refine callsIn_of_wp_marks Try.func40 rfl trivial ?_ rfl
  have K : Keyed Try.prog 9 := string_keyed Try.underlying9
  have hpl : p < w.heap.size := row_lt R.p_
  have hbO : bO < w.heap.size := R.ob.lt
  obtain ⟨W3, hW3⟩ : ∃ W3, W3 = ((w.alloc (.cells #[.string pk] 9)).alloc (.map #[] 0)).alloc (.cells #[.map (some (w.heap.size + 1))] 99) := ⟨_, rfl⟩
  have hs3 : W3.heap.size = w.heap.size + 3 := by rw [hW3]; simp
  have b3 : Below w.heap.size w W3 := by rw [hW3]; exact (((Below.refl _ w).alloc (Nat.le_refl _) _).alloc (by simp) _).alloc (by simp; omega) _
  have hpx : W3.cell? ⟨w.heap.size, 0, none⟩ = some (.string pk) := by
    rw [hW3]
    exact held_cell (i := 0) (row_alloc (row_alloc (heap_alloc_new w _) _) _) rfl
  have hkx : W3.cell? ⟨w.heap.size + 2, 0, none⟩ = some (.map (some (w.heap.size + 1))) := by
    rw [hW3]
    have := held_cell (i := 0) (heap_alloc_new ((w.alloc (.cells #[.string pk] 9)).alloc (.map #[] 0)) (.cells #[.map (some (w.heap.size + 1))] 99)) rfl
    simpa [World.size_alloc] using this
  have hU3 : Us W3 (w.heap.size + 1) [] := by
    have h1 := Us.made (w.alloc (.cells #[.string pk] 9))
    rw [World.size_alloc] at h1
    rw [hW3]
    exact h1.touch (Tch.alloc (fun _ => False) _ _) (fun h => h)
  have hrow3 := hid hU3.row
  have hfl := hid R.lt
  have R3 := R.below b3
  have p0 : W3.cell? ⟨p, 0, none⟩ = some (.map (some bO)) := held_cell R3.p_ rfl
  obtain ⟨D, hown, ha, _⟩ := R3.ob
  obtain ⟨w4, hrun, hr, hg, hsz⟩ := hown.range K (t := 37) Try.underlying37
  rw [hs3] at hrun hr hsz
  -- the loop over the objects
  obtain ⟨Rel, hRel⟩ : ∃ Rel : World → (Lit → Bool) → Nat → AL Unit → Prop, Rel = fun wr left cnt U1 => wr.ranges Try.prog 9 rSl bO (w.heap.size + 3) M.L.length D left cnt ∧ Us wr (w.heap.size + 1) U1 ∧ (akeys U1).Nodup ∧ (∀ k, k ∈ akeys U1 ↔ k ∈ akeys M.L ∧ left (kl k) = false) ∧ Tch (fun k => k = w.heap.size + 1) W3 wr ∧ (∀ x, left x = true → Maps.has D x = true) := ⟨_, rfl⟩
  have h0 : Hid (Rel w4 (Maps.has D) (Maps.size D) []) := by
    rw [hRel]
    have t4 : Tch (fun _ => False) W3 w4 := Tch.grown hg (fun k hk => by cases hk)
    refine hid ⟨hr, hU3.touch t4 (fun h => h), List.nodup_nil, fun k => ⟨fun h => (by cases h), fun h => ?_⟩, t4.mono (fun k h => h.elim), fun _ h => h⟩
    have h1 := al_isSome.2 h.1
    rw [← ha.has, h.2] at h1
    cases h1
  have HM : Hid (∀ wr left cnt U1, Rel wr left cnt U1 → wr.rangeLeft bO (w.heap.size + 3) = cnt) := hid (fun wr left cnt U1 h => by
    rw [hRel] at h
    exact h.1.left_eq)
  have HC : Hid (∀ wr left cnt U1, Rel wr left cnt U1 → Tch (fun k => k = w.heap.size + 1) W3 wr) := hid (fun wr left cnt U1 h => by
    rw [hRel] at h
    exact h.2.2.2.2.1)
  have hll := hwf.ln
  have STEP : ∀ (wr : World) (left : Lit → Bool) (cnt : Nat) (U1 : AL Unit), Rel wr left cnt U1 →
      (((Instr.next (.pointer (some ⟨w.heap.size + 3, 0, none⟩)) false 0).run Try.prog wr = .ok (.tuple #[.bool false]) wr ∧ Hid (Us wr (w.heap.size + 1) U1 ∧ (akeys U1).Nodup ∧ ∀ k, k ∈ akeys U1 ↔ k ∈ akeys M.L)) ∨
       ∃ (s : ByteArray) (v : Value) (w' w'' : World), (Instr.next (.pointer (some ⟨w.heap.size + 3, 0, none⟩)) false 0).run Try.prog wr = .ok (.tuple #[.bool true, .string s, v]) w' ∧ (Instr.entry (.pointer (some ⟨w.heap.size + 3, 0, none⟩))).run Try.prog w' = .ok (.tuple #[.string s, v]) w' ∧
         w'.cell? ⟨w.heap.size + 2, 0, none⟩ = some (.map (some (w.heap.size + 1))) ∧ (Instr.mapUpdate 99 (.map (some (w.heap.size + 1))) (.string s) (.agg #[])).run Try.prog w' = .ok () w'' ∧
         Hid (∃ left' cnt' U', Rel w'' left' cnt' U' ∧ cnt' < cnt)) := by
    intro wr left cnt U1 hh
    rw [hRel] at hh
    obtain ⟨h1, h2, h3, h4, h5, h6⟩ := hh
    rcases h1.next K 0 with ⟨hc0, hall, hrun⟩ | ⟨key, v, kl0, y, w', cnt', hkey, hlk, hv, hat, hrun, hrg, hlt', hgr, hsz', hen⟩
    · exact .inl ⟨hrun, hid ⟨h2, h3, fun k => by rw [h4 k]; simp [hall]⟩⟩
    · obtain ⟨x, rfl, rfl, hx⟩ := Maps.keyOf_str Try.underlying9 hkey
      obtain ⟨s, hs⟩ : ∃ s : ByteArray, s = ⟨x.toArray⟩ := ⟨_, rfl⟩
      have hks : Lit.string x = kl s := by rw [hs]; unfold kl; simp
      have hes : encStr x = .string s := by rw [hs]
      have hssz : s.size ≤ maxLen := by rw [hs]; simpa [ByteArray.size] using hx
      rw [hks] at hlk hrg hat hkey
      rw [hes] at hrun hen hkey
      have hhas := h6 _ hlk
      rw [ha.has, al_isSome] at hhas
      have tr : Tch (· = w.heap.size + 3) wr w' := Tch.grown hgr (fun k hk => by injection hk with hk; exact hk.symm)
      have h5' : Tch (fun k => k = w.heap.size + 1) W3 w' := h5.out tr (fun j hj => .inr (by omega))
      have hU' : Us w' (w.heap.size + 1) U1 := h2.touch tr (by omega)
      have hUl : U1.length ≤ M.L.length := keys_le h3 (fun k hk => ((h4 k).1 hk).1)
      obtain ⟨w'', hup, hU2, tU⟩ := hU'.put h3 (by unfold maxLen; omega) s hssz
      refine .inr ⟨s, v, w', w'', hrun, hen, (h5'.cell (b := w.heap.size + 2) (i := 0) (by omega) (by omega)).trans hkx, hup, hid ⟨fun z => left z && !z.sameKey (kl s), cnt', aput U1 s (), ?_, hlt'⟩⟩
      rw [hRel]
      refine ⟨hrg.kept (row := some (w.heap.size + 1)) ⟨tU.os, tU.tape, tU.output, tU.size, fun k hk hn => tU.block k hk (fun e => hn (by rw [e]))⟩ (by simp; omega) (by simp), hU2, nodup_aput h3 _ _, fun k => ?_, h5'.trans tU, fun x hx => h6 x (by rw [Bool.and_eq_true] at hx; exact hx.1)⟩
      rw [mem_keys_put, h4 k]
      by_cases e : k = s
      · subst e; simp [kl_same, hhas]
      · simp [kl_same, e]
  have hcp : ∀ x ∈ keptS M, x.k.size ≤ 64 := fun x hx => hwf.cz x ((List.dropWhile_suffix _).subset hx)
  have hkl : (keptS M).length ≤ 4194304 := Nat.le_trans ((List.dropWhile_suffix _).length_le) (Nat.le_trans hwf.lc hwf.hc)
  have hlate := late_kept hwf
  have hnow := hwf.nw
  have hlag : M.lag ≤ 100 := Nat.le_trans hwf.lg hwf.mo
  have hLt : ∀ w1, CallsIn Fence.wide 7 Try.prog 58 #[.pointer (some ⟨p, 0, none⟩)] w1 fun e w' => e = .returned (.func (.func 68) #[] #[.pointer (some ⟨w1.heap.size, 0, none⟩)]) ∧ w' = w1.alloc (.cells #[.pointer (some ⟨p, 0, none⟩)] 36) := fun w1 => callsIn_wide.2 (late_is p w1)
  have hfL : Fence.wide.fn 58 := trivial
  have hmm := @run_makeMap Try.prog
  have hrunE := hrun
  have p0E := p0
  rw [hW3] at hrunE p0E
  have HW3 := hid hW3
  have HR3 := hid R3
  have Hhown := hid hown
  clear hW3 hg hr hrun R R3 hown ha hRel K hU3
  simp only [Try.ntmps40, List.size_toArray, List.length_cons, List.length_nil, Nat.reduceAdd, Nat.reduceSub, Array.replicate_succ, Array.replicate_zero, List.push_toArray, List.append_toArray, List.nil_append, List.cons_append]
  gi_wp2
  gi_loopw [6] (fun _ wr => ∃ (left : Lit → Bool) (cnt : Nat) (U1 : AL Unit), Hid (Rel wr left cnt U1)) (fun _ wr => wr.rangeLeft bO (w.heap.size + 3))
  case atStart => exact ⟨_, _, _, h0⟩
  case round =>
    obtain ⟨left, cnt, U1, hra⟩ := hrel
    have hm := hid (HM.out wr left cnt U1 hra.out)
    have hct := HC.out wr left cnt U1 hra.out
    rcases STEP wr left cnt U1 hra.out with ⟨hrun2, HY⟩ | ⟨s, v, w', w'', hrun2, hen, hkc, hup, HN⟩
    · clear STEP hra hm HM HC h0
      gi_wp2_with (gi_at_call 58; refine (hLt _).mono ?_; rintro e w' ⟨rfl, rfl⟩)
      obtain ⟨hUr, hUn, hUk⟩ := HY.out
      have R4 := (HR3.out).touch hct (fun j hj hf => by
        have := hfl.out j hf
        omega) (fun j hj _ cs z e => by
        obtain ⟨es, ck, h2⟩ := hrow3.out
        rw [hj, h2] at e
        cases e)
      have hkw : w.heap.size + 1 < wr.heap.size := hUr.lt
      obtain ⟨w6, hw6⟩ : ∃ w6, w6 = wr.alloc (.cells #[.pointer (some ⟨p, 0, none⟩)] 36) := ⟨_, rfl⟩
      have hs6 : w6.heap.size = wr.heap.size + 1 := by rw [hw6]; simp
      have b46 : Below wr.heap.size wr w6 := by rw [hw6]; exact (Below.refl _ wr).alloc (Nat.le_refl _) _
      have R6 := R4.below b46
      have hU6 : Us w6 (w.heap.size + 1) U1 := hUr.touch (Tch.of_below (S := fun _ => False) b46) (fun h => h)
      have hbx6 : w6.cell? ⟨wr.heap.size, 0, none⟩ = some (.pointer (some ⟨p, 0, none⟩)) := by
        rw [hw6]
        exact held_cell (i := 0) (heap_alloc_new wr _) rfl
      have c36 : ∀ (k : Nat) (v : Value), k < W3.heap.size → k ≠ w.heap.size + 1 → W3.cell? ⟨k, 0, none⟩ = some v → w6.cell? ⟨k, 0, none⟩ = some v := fun k v hk hn hv => by
        have h1 : k < wr.heap.size := Nat.lt_of_lt_of_le hk hct.size
        exact (b46.cell (p := ⟨k, 0, none⟩) h1).trans ((hct.cell (b := k) (i := 0) hk hn).trans hv)
      have hpx6 := c36 _ _ (by omega) (by omega) hpx
      have hkx6 : w6.cell? ⟨w.heap.size + 1 + 1, 0, none⟩ = some (.map (some (w.heap.size + 1))) := c36 _ _ (by omega) (by omega) hkx
      have b6 : Below w.heap.size w w6 := (b3.trans (hct.to_below (fun j hj => by omega) (by omega))).trans (b46.mono (by omega))
      have hseq := late1_gives w6 wr.heap.size p bO cv (keptS M) M hbx6 (by omega) R6.p_ R6.ch.rd hkl hnow hlag
      rw [hlate] at hseq
      have hlp : ∀ x ∈ lateS M, x.k.size ≤ 64 := fun x hx => by
        rw [← hlate] at hx
        exact hcp x (List.mem_reverse.1 ((List.takeWhile_prefix _).subset hx))
      have hll2 : (lateS M).length ≤ 4194304 := by
        rw [← hlate]
        exact Nat.le_trans ((List.takeWhile_prefix _).length_le) (by rw [List.length_reverse]; exact hkl)
      have hUl : U1.length ≤ 4096 := Nat.le_trans (keys_le hUn (fun k hk => (hUk k).1 hk)) hll
      have HP := hid (fun (W : World) (hc : Cs w6 W) => (⟨hc.cell hpx6, hc.cell hkx6⟩ : W.cell? ⟨w.heap.size, 0, none⟩ = some (.string pk) ∧ W.cell? ⟨w.heap.size + 1 + 1, 0, none⟩ = some (.map (some (w.heap.size + 1)))))
      rw [← hw6]
      have HW6 := hid hw6
      have HR6 := hid R6
      clear hw6 R6 R4 hbx6 hpx6 hkx6 c36 hUr hpx hkx p0 p0E hrunE hrun2 hLt hfL hmm HY Hhown HW3 hct
      refine wp_rangeFunc (gf := 68) (lb := #[.pointer (some ⟨wr.heap.size, 0, none⟩)]) rfl (enters_of Try.func68 (by kernel_rfl) rfl) (fun _ => rfl) hseq
        (fun pre W => Us W (w.heap.size + 1) (backs U1 pre) ∧ Cs w6 W ∧ Below w.heap.size w W) (fun _ => False)
        (fun s a b h t => ⟨h.1.touch t (by omega), h.2.1.tch t, h.2.2.trans (t.to_below (fun j hj => by omega) h.2.2.size)⟩)
        (fun _ _ h _ => h)
        ⟨hU6, Cs.refl _, b6⟩
        (fun x b => { tmps := #[.pointer (some ⟨p, 0, none⟩), .string pk, undef, .pointer (some ⟨w.heap.size, 0, none⟩), .slice none 0 0, .pointer (some ⟨w.heap.size + 1 + 1, 0, none⟩), u6, .pointer (some ⟨b, 0, none⟩), .map (some (w.heap.size + 1)), .pointer (some ⟨p, 0, none⟩), .pointer (some ⟨p, 0, none⟩), .pointer (some ⟨p, 0, none⟩), .map (some bO), .pointer (some ⟨w.heap.size + 3, 0, none⟩), .tuple #[.bool false], .bool false, u16, u17, u18, u19, u20, .pointer (some ⟨p, 0, none⟩), .func (.func 68) #[] #[.pointer (some ⟨wr.heap.size, 0, none⟩)], chV x, undef, undef, undef, undef, undef, undef, undef, undef, undef, undef, undef, undef, undef, undef, undef], defers := [] })
        (fun x => .cells #[.int .i64 (x.t : Int), .string x.k, .bool x.c] 92) ?assign ?body ?done ?stop
      case assign =>
        intro l x Wi K _ hK
        unfold chV at hK ⊢
        gi_wp2
        exact hK
      case body =>
        rintro l pre x rest b Wi hx hb1 hb2 hbo ⟨hU, hcs, hbw⟩
        have e1 := (HP.out Wi hcs).2
        have f1 : Wi.cell? ⟨b, 1, none⟩ = some (.string x.k) := held_cell hbo rfl
        have f2 : Wi.cell? ⟨b, 2, none⟩ = some (.bool x.c) := held_cell hbo rfl
        have hxk : x.k.size ≤ maxLen := by
          have := hlp x (by rw [hx]; simp)
          unfold maxLen; omega
        have hnb := nodup_back hUn pre
        obtain ⟨es, ck, hrow⟩ := hU.row
        have hlen := len_back U1 pre
        have hpl2 : pre.length ≤ 4194304 := by rw [hx] at hll2; simp at hll2; omega
        have HB := hid (backs_snoc U1 pre x)
        have HCS := hid hcs
        have HBW := hid hbw
        cases hc : x.c <;> rw [hc] at f2
        · obtain ⟨W2, hup, hU2, t2⟩ := hU.put hnb (by unfold maxLen; omega) x.k hxk
          have HU2 : Hid (Us W2 (w.heap.size + 1) (backs U1 (pre ++ [x]))) := hid (by rw [HB.out, back1, hc]; exact hU2)
          have kp : Hid (Kept w6.heap.size Wi W2) := hid (Kept.of_tch t2 (by omega) hrow rfl)
          have HBW2 : Hid (Below w.heap.size w W2) := hid (HBW.out.trans (t2.to_below (fun j hj => by omega) HBW.out.size))
          clear hU2 t2 hrow hU hx hcs hbw hnb hs6 hs3
          gi_wp2
          exact ⟨kp.out, HU2.out, HCS.out.kept kp.out, HBW2.out⟩
        · obtain ⟨W2, hup, hU2, t2⟩ := hU.del hnb x.k hxk 0
          have HU2 : Hid (Us W2 (w.heap.size + 1) (backs U1 (pre ++ [x]))) := hid (by rw [HB.out, back1, hc]; exact hU2)
          have kp : Hid (Kept w6.heap.size Wi W2) := hid (Kept.of_tch t2 (by omega) hrow rfl)
          have HBW2 : Hid (Below w.heap.size w W2) := hid (HBW.out.trans (t2.to_below (fun j hj => by omega) HBW.out.size))
          clear hU2 t2 hrow hU hx hcs hbw hnb hs6 hs3
          gi_wp2
          exact ⟨kp.out, HU2.out, HCS.out.kept kp.out, HBW2.out⟩
      case done =>
        rintro D Wi hD ⟨hU, hcs, hbw⟩ hK
        have hwD : w.heap.size ≤ D := Nat.le_trans b6.size hD
        have hkx7 := (HP.out Wi hcs).2
        have hnb := nodup_back hUn (lateS M)
        have hlen := len_back U1 (lateS M)
        have hDl : D < Wi.heap.size := (Array.getElem?_eq_some_iff.1 hK).1
        have hsub := hid (fun k => backs_same (A := U1) (B := unitOf M.L) (fun j => by rw [keys_unit]; exact hUk j) (lateS M) k)
        have cD : CallsIn Fence.wide 7 Try.prog 59 #[.map (some (w.heap.size + 1)), .func (.func 60) #[] #[.pointer (some ⟨w.heap.size, 0, none⟩)]] Wi fun e W2 => e = .returned (.tuple #[]) ∧ W2.cell? ⟨w.heap.size + 1 + 1, 0, none⟩ = some (.map (some (w.heap.size + 1))) ∧ Hid (Tch (· = w.heap.size + 1) Wi W2 ∧ ∃ U2, Us W2 (w.heap.size + 1) U2 ∧ (akeys U2).Nodup ∧ (∀ k, k ∈ akeys U2 ↔ hasPre pk k = true ∧ k ∈ akeys (backs U1 (lateS M))) ∧ U2.length ≤ (backs U1 (lateS M)).length) := by
          refine callsIn_wide.2 ((delF_is hU hnb pk w.heap.size (HP.out Wi hcs).1 (by have := hU.lt; omega)).mono ?_)
          rintro e W2 ⟨rfl, t2, h2⟩
          exact ⟨rfl, (t2.cell (b := w.heap.size + 1 + 1) (i := 0) (by have := hbw.size; omega) (by omega)).trans hkx7, hid ⟨t2, h2⟩⟩
        have cK : ∀ W, CallsIn Fence.wide 7 Try.prog 62 #[.map (some (w.heap.size + 1))] W fun e w' => e = .returned (.func (.func 71) #[] #[.pointer (some ⟨W.heap.size, 0, none⟩)]) ∧ w' = W.alloc (.cells #[.map (some (w.heap.size + 1))] 99) := fun W => callsIn_wide.2 (callsIn_wide.1 (keysU_is _ W))
        have cS : ∀ W2 : World, Hid (Tch (· = w.heap.size + 1) Wi W2 ∧ ∃ U2, Us W2 (w.heap.size + 1) U2 ∧ (akeys U2).Nodup ∧ (∀ k, k ∈ akeys U2 ↔ hasPre pk k = true ∧ k ∈ akeys (backs U1 (lateS M))) ∧ U2.length ≤ (backs U1 (lateS M)).length) → CallsIn Fence.wide 7 Try.prog 49 #[.func (.func 71) #[] #[.pointer (some ⟨W2.heap.size, 0, none⟩)]] (W2.alloc (.cells #[.map (some (w.heap.size + 1))] 99)) fun e W4 => ∃ v, e = .returned v ∧ W4.heap[D]? = some (.deferred (some [])) ∧ Hid (KS.Own W4 w.heap.size v ((rises (listed M pk)).map kb) ∧ Below w.heap.size w W4) := by
          intro W2 HH
          obtain ⟨t2, U2, h1, h2, h3, h4⟩ := HH.out
          have hB2 : Below w.heap.size w W2 := hbw.trans (t2.to_below (fun j hj => by omega) hbw.size)
          refine callsIn_wide.2 ((callsIn_wide.1 (sortU_is h1 h2 (by omega))).mono ?_)
          rintro e W4 ⟨v, rfl, ho, hb4⟩
          refine ⟨v, rfl, ?_, hid ⟨?_, hB2.trans (hb4.mono hB2.size)⟩⟩
          · exact (hb4.block D (Nat.lt_of_lt_of_le hDl t2.size)).trans ((t2.block D hDl (by omega)).trans hK)
          · have e : rises U2 = rises (listed M pk) := by
              refine rises_same h2 (nodup_pre (nodup_back (by rw [keys_unit]; exact hwf.nn) _) _) (fun k => ?_)
              rw [h3 k, listed, mem_pre, hsub.out k]
            rw [← e]
            exact ho.mono hB2.size
        have hf1 : Fence.wide.fn 59 := trivial
        have hf2 : Fence.wide.fn 62 := trivial
        have hf3 : Fence.wide.fn 49 := trivial
        have HK := hid hK
        clear hU hcs hbw hK hnb hseq hs6 hs3
        simp only [markD]
        gi_wp2_with (first
          | (gi_at_call 59; refine cD.mono ?_; rintro e W2 ⟨rfl, hk2, H2⟩; have cS2 := cS W2 H2)
          | (gi_at_call 62; refine (cK W2).mono ?_; rintro e W5 ⟨rfl, rfl⟩)
          | (gi_at_call 49; refine cS2.mono ?_; rintro e W4 ⟨v, rfl, hK4, H4⟩))
        refine ⟨by simp, .inl ⟨_, _, rfl, run_takeDeferred hK4, ?_⟩⟩
        refine ⟨_, results_tmp rfl _ _ _, v, rfl, ownsRow_putObj H4.out.1 _ hK4 rfl, H4.out.2.trans ?_⟩
        exact (tch_putObj (S := fun k => w.heap.size ≤ k) _ hwD).to_below (fun _ h => h) H4.out.2.size
      case stop =>
        rintro D Wi _ h _
        exact h.elim
    · clear STEP hct
      gi_wp2
      go_roundw
      case rel => obtain ⟨l', c', U', h1, _⟩ := HN.out; exact ⟨_, _, _, hid h1⟩
      case measure => obtain ⟨l', c', U', h1, h2⟩ := HN.out; rw [hm.out, HM.out _ _ _ _ h1]; exact h2
end Go.Proofs.Ytcohpgahffbnlaa
