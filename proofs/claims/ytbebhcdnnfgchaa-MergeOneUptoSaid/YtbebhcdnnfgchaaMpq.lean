/-
  The law MergeOne, walked. Conditions: the arguments can be read; sizes as each theorem names.
-/
import Derived.Test.YtbebhcdnnfgchaaMpn
namespace Go.Icz
open Go.RowKit
section
variable {α : Type} (ky : α → Int × Int)
theorem outs_snoc : ∀ (met : List Int) (S : List α) (x : α), (outs ky met (S ++ [x])).length = (outs ky met S).length + (if (ky x).2 ∈ met ∨ ∃ y ∈ S, (ky y).2 = (ky x).2 then 0 else 1)
  | met, [], x => by
    simp only [List.nil_append, outs]
    split <;> simp [*]
  | met, y :: S, x => by
    rw [List.cons_append]
    by_cases hy : (ky y).2 ∈ met
    · rw [outs_in ky hy, outs_in ky hy, outs_snoc met S x]
      congr 1
      have : ((ky x).2 ∈ met ∨ ∃ z ∈ S, (ky z).2 = (ky x).2) ↔ ((ky x).2 ∈ met ∨ ∃ z ∈ y :: S, (ky z).2 = (ky x).2) := by
        constructor
        · rintro (h | ⟨z, hz, e⟩)
          · exact .inl h
          · exact .inr ⟨z, List.mem_cons_of_mem _ hz, e⟩
        · rintro (h | ⟨z, hz, e⟩)
          · exact .inl h
          · rcases List.mem_cons.1 hz with rfl | hz
            · exact .inl (e ▸ hy)
            · exact .inr ⟨z, hz, e⟩
      simp only [this]
    · rw [outs_out ky hy, outs_out ky hy, List.length_cons, List.length_cons, outs_snoc _ S x]
      have : ((ky x).2 ∈ (ky y).2 :: met ∨ ∃ z ∈ S, (ky z).2 = (ky x).2) ↔ ((ky x).2 ∈ met ∨ ∃ z ∈ y :: S, (ky z).2 = (ky x).2) := by
        constructor
        · rintro (h | ⟨z, hz, e⟩)
          · rcases List.mem_cons.1 h with h | h
            · exact .inr ⟨y, List.mem_cons_self .., h.symm⟩
            · exact .inl h
          · exact .inr ⟨z, List.mem_cons_of_mem _ hz, e⟩
        · rintro (h | ⟨z, hz, e⟩)
          · exact .inl (List.mem_cons_of_mem _ h)
          · rcases List.mem_cons.1 hz with rfl | hz
            · exact .inl (e ▸ List.mem_cons_self ..)
            · exact .inr ⟨z, hz, e⟩
      simp only [this]
      omega
end
end Go.Icz
namespace Go.Proofs.Ytbebhcdnnfgchaa
open Go.RowKit Go.Icz Go.Maps
/-- The entries of the first rows, and the first ones of a row. -/
def upTo (R : List SR) (i k : Nat) : List EV := (R.take i).flatMap (·.l) ++ ((R[i]?.map (·.l)).getD []).take k
theorem upTo_next {R : List SR} {i : Nat} (hi : i < R.length) : upTo R i (R[i].l.length) = upTo R (i + 1) 0 := by
  unfold upTo
  rw [List.getElem?_eq_getElem hi, List.take_succ_eq_append_getElem hi, List.flatMap_append]
  simp only [Option.map_some, Option.getD_some, List.take_length, List.take_zero, List.append_nil, List.flatMap_cons, List.flatMap_nil]
theorem upTo_flat (R : List SR) {i k : Nat} (hi : i < R.length) : R.flatMap (·.l) = (R.take i).flatMap (·.l) ++ (R[i].l ++ (R.drop (i + 1)).flatMap (·.l)) := by
  have e : R = R.take i ++ (R[i] :: R.drop (i + 1)) := by rw [← List.drop_eq_getElem_cons hi, List.take_append_drop]
  conv => lhs; rw [e]
  rw [List.flatMap_append, List.flatMap_cons]
theorem upTo_len (R : List SR) {i k : Nat} (hi : i < R.length) : (upTo R i k).length ≤ totR (rowsOf R) := by
  have h1 : (R.flatMap (·.l)).length = totR (rowsOf R) := by unfold totR rowsOf; rw [List.length_flatMap, List.map_map]; rfl
  rw [← h1, upTo_flat R (k := k) hi]
  unfold upTo
  rw [List.getElem?_eq_getElem hi]
  simp only [Option.map_some, Option.getD_some, List.length_append, List.length_take]
  omega
theorem upTo_succ {R : List SR} {i k : Nat} (hi : i < R.length) (hk : k < R[i].l.length) : upTo R i (k + 1) = upTo R i k ++ [R[i].l[k]] := by
  unfold upTo
  rw [List.getElem?_eq_getElem hi]
  simp only [Option.map_some, Option.getD_some]
  rw [List.take_succ_eq_append_getElem hk, List.append_assoc]
theorem upTo_all (R : List SR) : upTo R R.length 0 = (rowsOf R).flatten := by
  unfold upTo rowsOf
  simp [List.flatMap_def]
set_option maxRecDepth 100000 in
set_option maxHeartbeats 8000000 in
theorem one_walk (v : Value) (nb : Bool) (R : List SR) (W : World) (hR : RdR W v R) (hz : SzR R) :
    Calls Try.prog 7 #[v, .bool nb] W fun e w' => e = .returned (.bool true) ∧ Below W.heap.size W w' := by
  have hMM := @run_makeMap Try.prog
  have C1 := hid (fun w (hb : Below W.heap.size W w) => LRows_is v R w (hR.below hb) hz)
  have C2 := hid (fun u (R1 : List SR) B w (h : OwR w B u R1) (e : bare R1 = bare R) => GAll_bare u nb 0 R1 w (h.rd (by rw [e]; exact hR.wf)) (hz.of_bare e))
  have CO := hid (fun w (hb : Below W.heap.size W w) r (hr : r ∈ R) => ROrd_is (.slice r.A r.l.length r.c) nb r.l w ((hR.2 r hr).1.below hb) (hz.one hr))
  have HR := hid hR
  have HZ := hid hz
  have hzl := hz.1
  have HT : Hid (totR (rowsOf R) ≤ 1099511627776) := hid hz.2
  obtain ⟨A0, c0, hv, _⟩ := hR.1.form
  subst hv
  have hM0 := MBf.made W
  have hb0 : Below W.heap.size W (W.alloc (.map #[] 0)) := (Below.refl _ W).alloc (Nat.le_refl _) _
  have hz0 : (W.alloc (.map #[] 0)).heap.size = W.heap.size + 1 := World.size_alloc _ _
  have ROW : Hid (∀ (i : Nat) (hi : i < R.length), ∃ b off, A0 = some ⟨b, off, none⟩ ∧ ∀ wr, Below W.heap.size W wr → wr.cell? ⟨b, off + i, none⟩ = some (.slice (R[i]).A (R[i]).l.length (R[i]).c)) := hid (fun i hi => by
    obtain ⟨b, off, hA, hb, hc⟩ := hR.1.at hi
    refine ⟨b, off, hA, fun wr hw => ?_⟩
    have : wr.cell? ⟨b, off + (i * 1 + 0), none⟩ = some (.slice R[i].A R[i].l.length R[i].c) := (hw.cell (p := ⟨b, off + (i * 1 + 0), none⟩) hb).trans (hc 0 _ (by decide) rfl)
    rwa [Nat.mul_one, Nat.add_zero] at this)
  have ENT : Hid (∀ r ∈ R, ∀ (k : Nat) (hk : k < r.l.length), ∃ b off, r.A = some ⟨b, off, none⟩ ∧ ∀ wr, Below W.heap.size W wr → wr.cell? ⟨b, off + k * 4, none⟩ = some (.int .i64 (r.l[k]).1.seq) ∧ wr.cell? ⟨b, off + k * 4 + 1, none⟩ = some (.int .i64 (r.l[k]).1.time) ∧ wr.cell? ⟨b, off + k * 4 + 2, none⟩ = some (.slice (r.l[k]).2.1 (r.l[k]).1.labs.length (r.l[k]).2.2) ∧ wr.cell? ⟨b, off + k * 4 + 3, none⟩ = some (.string ⟨(r.l[k]).1.line.toArray⟩)) := hid (fun r hr k hk => by
    obtain ⟨b, off, hA, hb, hc⟩ := (hR.2 r hr).1.at hk
    refine ⟨b, off, hA, fun wr hw => ?_⟩
    have q := fun j u hj hu => (hw.cell (p := ⟨b, off + (k * 4 + j), none⟩) hb).trans (hc j u hj hu)
    exact ⟨q 0 _ (by decide) rfl, q 1 _ (by decide) rfl, q 2 _ (by decide) rfl, q 3 _ (by decide) rfl⟩)
  clear hR hz
  go_enter Try.func7, Try.ntmps7
  go_wp2
  generalize hW1 : W.alloc (.map #[] 0) = W1 at *
  go_loopw [6] (fun iv wr => ∃ (i n : Nat) (f : Int → Bool), iv = .int .i64 i ∧ i ≤ R.length ∧ MBf wr W.heap.size n f ∧ Hid (n ≤ (upTo R i 0).length ∧ (∀ z, f z = true ↔ ∃ x ∈ upTo R i 0, x.1.seq = z) ∧ ∀ r ∈ R.take i, ordB nb (r.l.map (·.1)) = true) ∧ Below W.heap.size W wr) (fun iv _ => R.length - (intOf iv).toNat)
  case atStart => exact ⟨0, 0, _, rfl, by omega, hM0, hid ⟨by simp [upTo], fun z => by simp [upTo], by simp⟩, hb0⟩
  case round =>
    obtain ⟨i, n, f, rfl, hi, hM, HM, hbw⟩ := hrel
    by_cases hLt : i < R.length
    · obtain ⟨b, off, hA, hc⟩ := ROW.out i hLt
      have hmem : R[i] ∈ R := List.getElem_mem hLt
      have hOrd := CO.out wr hbw _ hmem
      have hE := hid (ENT.out _ hmem)
      subst hA
      have hil : (i : Int) < (R.length : Int) := by omega
      have HI := hid hLt
      have c1 := hc _ hbw
      have HC := hid hc
      have HTN := hid (upTo_next hLt)
      have HUS : Hid (∀ k (hk : k < R[i].l.length), upTo R i (k + 1) = upTo R i k ++ [R[i].l[k]]) := hid (fun k hk => upTo_succ hLt hk)
      have HUL : Hid (∀ k, (upTo R i k).length ≤ 1099511627776) := hid (fun k => Nat.le_trans (upTo_len R hLt) HT.out)
      have HWF : Hid (∀ k (hk : k < R[i].l.length), wfI (R[i].l[k]).1.seq) := hid (fun k hk => ((HR.out.2 _ hmem).2 _ (List.getElem_mem hk)).2.1)
      have hrl : R[i].l.length ≤ 1099511627776 := HZ.out.one hmem
      have HTK : Hid (∀ r, r ∈ R.take (i + 1) → r ∈ R.take i ∨ r = R[i]) := hid (fun r hr => by rw [List.take_succ_eq_append_getElem hLt] at hr; rcases List.mem_append.1 hr with h | h; exact .inl h; exact .inr (List.mem_singleton.1 h))
      clear hc hmem ROW ENT
      generalize R[i] = r at *
      obtain ⟨rA, rc, rl⟩ := r
      simp only at c1 hOrd hrl
      cases hob : ordB nb (rl.map (·.1)) with
      | false =>
        rw [hob] at hOrd
        go_wp2_with (first
          | (go_at_call 26; refine hOrd.mono ?_; rintro e w5 ⟨rfl, b5⟩)
          | (go_at_call 14; refine (knows_is _).mono ?_; rintro e w9 ⟨rfl, b9⟩))
        go_ret
        exact ⟨rfl, hbw.trans ((b5.mono hbw.size).trans (b9.mono (Nat.le_trans hbw.size b5.size)))⟩
      | true =>
        rw [hob] at hOrd
        have HOB := hid hob
        clear hob
        go_wp2_with (go_at_call 26; refine hOrd.mono ?_; rintro e w5 ⟨rfl, b5⟩)
        have hM5 := hM.touch (Tch.of_below b5 (S := fun _ => False)) (fun h => h)
        have hb5 := hbw.trans (b5.mono hbw.size)
        clear hM hOrd
        go_loopw [7] (fun kv ws => ∃ (k n : Nat) (f : Int → Bool), kv = .int .i64 k ∧ k ≤ rl.length ∧ MBf ws W.heap.size n f ∧ Hid (n ≤ (upTo R i k).length ∧ (∀ z, f z = true ↔ ∃ x ∈ upTo R i k, x.1.seq = z)) ∧ Below W.heap.size W ws) (fun kv _ => rl.length - (intOf kv).toNat)
        case atStart => exact ⟨0, n, f, rfl, by omega, hM5, hid ⟨HM.out.1, HM.out.2.1⟩, hb5⟩
        case round =>
          obtain ⟨k, n, f, rfl, hk, hM2, HM2, hbw2⟩ := hrel
          have c2 := HC.out _ hbw2
          by_cases hkl : k < rl.length
          · obtain ⟨b2, off2, hA2, hcc⟩ := hE.out k hkl
            have hA3 : rA = some ⟨b2, off2, none⟩ := hA2
            subst hA3
            obtain ⟨y0, _, _, _⟩ := hcc _ hbw2
            have hwx : wfI (rl[k]).1.seq := HWF.out k hkl
            have hus : upTo R i (k + 1) = upTo R i k ++ [rl[k]] := HUS.out k hkl
            have HUK := hid hus
            have hkI : (k : Int) < (rl.length : Int) := by omega
            have HK := hid hkl
            clear hcc hus hA2
            change wr.cell? ⟨b2, off2 + k * 4, none⟩ = some (.int .i64 (rl[k]).1.seq) at y0
            generalize rl[k] = x at *
            have hml : n < maxLen := by have h1 := HM2.out.1; have h2 := HUL.out k; unfold maxLen; omega
            obtain ⟨w6, hst, s6, t6⟩ := hM2.store x.1.seq true hwx hml
            have b6 : Below W.heap.size W w6 := Tch.below hbw2 t6 (fun j e => by rw [e]; exact Nat.le_refl _) hbw2.size
            have HN : Hid (n + 1 ≤ (upTo R i (k + 1)).length ∧ ∀ z, (if z = x.1.seq then true else f z) = true ↔ ∃ y ∈ upTo R i (k + 1), y.1.seq = z) := hid (by
              rw [HUK.out]
              refine ⟨by rw [List.length_append]; simp only [List.length_singleton]; have := HM2.out.1; omega, fun z => ?_⟩
              by_cases hz : z = x.1.seq
              · rw [if_pos hz]
                exact ⟨fun _ => ⟨x, List.mem_append_right _ (List.mem_singleton.2 rfl), hz.symm⟩, fun _ => rfl⟩
              · rw [if_neg hz, HM2.out.2 z]
                constructor
                · rintro ⟨y, hy, e⟩
                  exact ⟨y, List.mem_append_left _ hy, e⟩
                · rintro ⟨y, hy, e⟩
                  rcases List.mem_append.1 hy with hy | hy
                  · exact ⟨y, hy, e⟩
                  · rw [List.mem_singleton.1 hy] at e
                    exact absurd e.symm hz)
            clear hM2 HM2 hE HC HWF HUS
            go_wp2
            go_roundw
            case rel => exact ⟨k + 1, n + 1, _, by go_num, HK.out, s6, HN, b6⟩
            case measure => have := HK.out; simp [intOf]; omega
          · have hke : ¬ (k : Int) < (rl.length : Int) := by omega
            have hkl2 : k = rl.length := by omega
            have HN : Hid (n ≤ (upTo R (i + 1) 0).length ∧ (∀ z, f z = true ↔ ∃ x ∈ upTo R (i + 1) 0, x.1.seq = z) ∧ ∀ r ∈ R.take (i + 1), ordB nb (r.l.map (·.1)) = true) := hid (by
              have h1 : upTo R i k = upTo R (i + 1) 0 := by rw [hkl2]; exact HTN.out
              rw [← h1]
              refine ⟨HM2.out.1, HM2.out.2, fun r hr => ?_⟩
              rcases HTK.out r hr with h | rfl
              · exact HM.out.2.2 r h
              · exact HOB.out)
            clear HM2 HM hkl2
            go_wp2
            go_roundw
            case rel => exact ⟨i + 1, n, f, by go_num, HI.out, hM2, HN, hbw2⟩
            case measure => have := HI.out; simp [intOf]; omega
    · obtain rfl : i = R.length := by omega
      have HALL : Hid (n ≤ totR (rowsOf R) ∧ (∀ z, f z = true ↔ ∃ x ∈ (rowsOf R).flatten, x.1.seq = z) ∧ ∀ r ∈ R, ordB nb (r.l.map (·.1)) = true) := hid (by
        have h := HM.out
        rw [upTo_all, List.take_length, List.length_flatten] at h
        exact h)
      clear HM
      have D1 := C1.out wr hbw
      go_wp2_with (first
        | (go_at_call 11; refine D1.mono ?_; rintro e w1 ⟨u1, R1, rfl, o1, hr1, b1⟩; have HR1 := hid hr1; have D2 := C2.out u1 R1 _ w1 o1 hr1; clear D1 hr1)
        | (go_at_call 20; refine D2.mono ?_; rintro e w2 ⟨u2, M1, rfl, o2, hm2, s2, b2⟩; have HM1 := hid hm2; clear hm2 D2))
      have HK0 : Hid (M1.map (·.1) = ansE nb (bare R)) := hid (by rw [HM1.out, HR1.out]; unfold takeM; rw [if_pos rfl])
      have HK1 : Hid ((M1.map fun x => x.1.seq).Nodup) := hid (by
        have h := (outs_keys kyE [] (strm kyE nb (bare R))).1
        have e : (M1.map fun x => x.1.seq) = (M1.map (·.1)).map (fun x => (kyE x).2) := by rw [List.map_map]; rfl
        rw [e, HK0.out]
        exact h)
      have HK2 : Hid (∀ x ∈ M1, ∃ y ∈ (rowsOf R).flatten, y.1 = x.1) := hid (fun x hx => by
        have h : x.1 ∈ ansE nb (bare R) := by rw [← HK0.out]; exact List.mem_map.2 ⟨x, hx, rfl⟩
        obtain ⟨r, hr, hxr⟩ := outs_from kyE nb (bare R) h
        unfold bare at hr
        obtain ⟨r0, hr0, rfl⟩ := List.mem_map.1 hr
        obtain ⟨y, hy, e⟩ := List.mem_map.1 hxr
        exact ⟨y, List.mem_flatten.2 ⟨r0.l, List.mem_map.2 ⟨r0, hr0, rfl⟩, hy⟩, e⟩)
      have HK3 : Hid (M1.length = (outs kyV [] (rowsOf R).flatten).length) := hid (by
        rw [← outs_flat kyV nb, ← List.length_map (f := fun x : EV => x.1), HK0.out, ← ans_bare, List.length_map])
      have HK4 : Hid (ordB nb (M1.map (·.1)) = true) := hid (by
        rw [HK0.out]
        refine ordB_outs (fun l hl => ?_)
        unfold bare at hl
        obtain ⟨r, hr, rfl⟩ := List.mem_map.1 hl
        exact HALL.out.2.2 r hr)
      have hM2 := hM.touch (Tch.of_below (b1.trans (b2.mono b1.size)) (S := fun _ => False)) (fun h => h)
      have bw2 := hbw.trans ((b1.trans (b2.mono b1.size)).mono hbw.size)
      have hml := hM.lt
      have hw1 := b1.size
      obtain ⟨A2, c2, rfl, _⟩ := o2.1.rd.form
      have hs1 : M1.length ≤ 1099511627776 := s2.1
      have CM : Hid (∀ (j : Nat) (hj : j < M1.length), ∃ b off, A2 = some ⟨b, off, none⟩ ∧ ∀ ws, Tch (· = W.heap.size) w2 ws → ws.cell? ⟨b, off + j * 4, none⟩ = some (.int .i64 (M1[j]).1.seq) ∧ ws.cell? ⟨b, off + j * 4 + 1, none⟩ = some (.int .i64 (M1[j]).1.time) ∧ ws.cell? ⟨b, off + j * 4 + 2, none⟩ = some (.slice (M1[j]).2.1 (M1[j]).1.labs.length (M1[j]).2.2) ∧ ws.cell? ⟨b, off + j * 4 + 3, none⟩ = some (.string ⟨(M1[j]).1.line.toArray⟩)) := hid (fun j hj => by
        obtain ⟨b, off, hA, hb, q0, q1, q2, q3⟩ := Rd4 o2.1.rd hj
        have hlo := (o2.1.lt b (by rw [hA]; rfl)).1
        refine ⟨b, off, hA, fun ws t => ?_⟩
        have hne : ¬ b = W.heap.size := by omega
        exact ⟨(t.cell hb hne).trans q0, (t.cell hb hne).trans q1, (t.cell hb hne).trans q2, (t.cell hb hne).trans q3⟩)
      have LM : Hid (∀ x ∈ M1, ∀ ws, Tch (· = W.heap.size) w2 ws → KLab.Rd ws (lbV x) x.1.labs) := hid (fun x hx ws t => ((o2.2 x hx).touch t (fun k e e2 => by have := ((o2.2 x hx).lt k e2).1; omega)).rd)
      have LMz : Hid (∀ x ∈ M1, x.1.labs.length ≤ 1099511627776) := hid s2.2
      have O2 := hid o2
      have Hin : Hid (∀ x ∈ M1, wfI x.1.seq) := hid (fun x hx => by
        obtain ⟨y, hy, e⟩ := HK2.out x hx
        obtain ⟨r, hr, hyr⟩ := List.mem_flatten.1 hy
        obtain ⟨r0, hr0, rfl⟩ := List.mem_map.1 hr
        rw [← e]
        exact ((HR.out.2 r0 hr0).2 y hyr).2.1)
      clear o2 hM o1 HM1 HK0 C1 C2 CO s2
      go_loopw [9] (fun iv ws => ∃ (i n : Nat) (f : Int → Bool), iv = .int .i64 i ∧ i ≤ M1.length ∧ MBf ws W.heap.size n f ∧ Hid (n ≤ totR (rowsOf R) + i ∧ (∀ z, f z = true ↔ (∃ x ∈ (rowsOf R).flatten, x.1.seq = z) ∧ ¬ z ∈ (M1.take i).map fun x => x.1.seq)) ∧ Tch (· = W.heap.size) w2 ws) (fun iv _ => M1.length - (intOf iv).toNat)
      case atStart => exact ⟨0, n, f, rfl, by omega, hM2, hid ⟨by have := HALL.out.1; omega, fun z => by rw [HALL.out.2.1 z]; simp⟩, Tch.refl _ _⟩
      case round =>
        obtain ⟨i, n, f, rfl, hi, hM, HF, ht⟩ := hrel
        by_cases hLt : i < M1.length
        · obtain ⟨b, off, hA, hc⟩ := CM.out i hLt
          subst hA
          have hmem : M1[i] ∈ M1 := List.getElem_mem hLt
          have hil : (i : Int) < (M1.length : Int) := by omega
          have HI := hid hLt
          have HTI := hid (List.take_succ_eq_append_getElem hLt)
          have hnot : ¬ (M1[i]).1.seq ∈ (M1.take i).map fun x => x.1.seq := by
            intro hin
            have h1 := HK1.out
            rw [← List.take_append_drop i M1, List.drop_eq_getElem_cons hLt, List.map_append, List.nodup_append] at h1
            exact h1.2.2 _ hin _ (by rw [List.map_cons]; exact List.mem_cons_self ..) rfl
          have hfx : f (M1[i]).1.seq = true := by
            rw [HF.out.2]
            obtain ⟨y, hy, e⟩ := HK2.out _ hmem
            exact ⟨⟨y, hy, congrArg (fun z : Ent => z.seq) e⟩, hnot⟩
          have hwx := Hin.out _ hmem
          have hfrom := hid (HK2.out _ hmem)
          have hLab := hid (LM.out _ hmem)
          have hLz := LMz.out _ hmem
          have HC := hid hc
          obtain ⟨x0, x1, x2, x3⟩ := hc _ ht
          clear hc hmem hnot CM LM LMz Hin HK1 HK2
          generalize M1[i] = x at *
          have lk := hM.look x.1.seq hwx
          rw [hfx] at lk
          have hml2 : n < maxLen := by have h1 := HF.out.1; have h2 := HT.out; unfold maxLen; omega
          obtain ⟨w6, hst, s6, t6⟩ := hM.store x.1.seq false hwx hml2
          have t26 := ht.trans t6
          have HF2 : Hid (n + 1 ≤ totR (rowsOf R) + (i + 1) ∧ ∀ z, (if z = x.1.seq then false else f z) = true ↔ (∃ y ∈ (rowsOf R).flatten, y.1.seq = z) ∧ ¬ z ∈ (M1.take (i + 1)).map fun x => x.1.seq) := hid (by
            refine ⟨by have := HF.out.1; omega, fun z => ?_⟩
            rw [HTI.out, List.map_append, List.mem_append]
            by_cases hz : z = x.1.seq
            · rw [if_pos hz]
              simp [hz]
            · rw [if_neg hz, HF.out.2 z]
              simp [hz])
          obtain ⟨y0, y1, y2, y3⟩ := HC.out _ t26
          clear HF HTI hM
          go_wp2
          have bw6 : Below W.heap.size W w6 := Tch.below bw2 t26 (fun j e => by rw [e]; exact Nat.le_refl _) bw2.size
          go_loopw [10, 11] (fun fv kv ws => ∃ (fb : Bool) (k : Nat), fv = .bool fb ∧ kv = .int .i64 k ∧ k ≤ R.length ∧ Hid (fb = true ↔ ∃ y ∈ upTo R k 0, y.1 = x.1) ∧ Below w6.heap.size w6 ws) (fun _ kv _ => R.length - (intOf kv).toNat)
          case atStart => exact ⟨false, 0, rfl, rfl, by omega, hid (by simp [upTo]), Below.refl _ _⟩
          case round =>
            obtain ⟨fb, k, rfl, rfl, hk, HFB, hb6⟩ := hrel
            by_cases hkR : k < R.length
            · obtain ⟨b3, off3, hA3, hc3⟩ := ROW.out k hkR
              have hmem : R[k] ∈ R := List.getElem_mem hkR
              have hE := hid (ENT.out _ hmem)
              have hEL := hid ((HR.out.2 _ hmem).2)
              subst hA3
              have hkI : (k : Int) < (R.length : Int) := by omega
              have HKR := hid hkR
              have HC3 := hid hc3
              have c3 := hc3 _ (bw6.trans (hb6.mono bw6.size))
              have HTN := hid (upTo_next hkR)
              have HUS : Hid (∀ q (hq : q < R[k].l.length), upTo R k (q + 1) = upTo R k q ++ [R[k].l[q]]) := hid (fun q hq => upTo_succ hkR hq)
              have hrl : R[k].l.length ≤ 1099511627776 := HZ.out.one hmem
              clear hc3 hmem ROW ENT
              generalize R[k] = r at *
              obtain ⟨rA, rc, rl⟩ := r
              simp only at c3 hrl
              go_wp2
              go_loopw [10, 12] (fun fv qv ws => ∃ (fb : Bool) (q : Nat), fv = .bool fb ∧ qv = .int .i64 q ∧ q ≤ rl.length ∧ Hid (fb = true ↔ ∃ y ∈ upTo R k q, y.1 = x.1) ∧ Below w6.heap.size w6 ws) (fun _ qv _ => rl.length - (intOf qv).toNat)
              case atStart => exact ⟨fb, 0, rfl, rfl, by omega, HFB, hb6⟩
              case round =>
                obtain ⟨fb, q, rfl, rfl, hq, HFQ, hb7⟩ := hrel
                have c4 := HC3.out _ (bw6.trans (hb7.mono bw6.size))
                by_cases hqr : q < rl.length
                · obtain ⟨b4, off4, hA4, hcc⟩ := hE.out q hqr
                  have hA5 : rA = some ⟨b4, off4, none⟩ := hA4
                  subst hA5
                  have hy := hEL.out (rl[q]) (List.getElem_mem hqr)
                  have hus : upTo R k (q + 1) = upTo R k q ++ [rl[q]] := HUS.out q hqr
                  have HUK := hid hus
                  have hqI : (q : Int) < (rl.length : Int) := by omega
                  have HQ := hid hqr
                  have hcc2 : ∀ ws, Below W.heap.size W ws → ws.cell? ⟨b4, off4 + q * 4, none⟩ = some (.int .i64 (rl[q]).1.seq) ∧ ws.cell? ⟨b4, off4 + q * 4 + 1, none⟩ = some (.int .i64 (rl[q]).1.time) ∧ ws.cell? ⟨b4, off4 + q * 4 + 2, none⟩ = some (.slice (rl[q]).2.1 (rl[q]).1.labs.length (rl[q]).2.2) ∧ ws.cell? ⟨b4, off4 + q * 4 + 3, none⟩ = some (.string ⟨(rl[q]).1.line.toArray⟩) := hcc
                  clear hcc hus hA4 hE hEL HUS
                  generalize rl[q] = y at *
                  have HN : ∀ fb2 : Bool, (fb2 = true ↔ fb = true ∨ y.1 = x.1) → Hid (fb2 = true ↔ ∃ y ∈ upTo R k (q + 1), y.1 = x.1) := fun fb2 h => hid (by
                    rw [h, HUK.out, HFQ.out]
                    constructor
                    · rintro (⟨z, hz, e⟩ | e)
                      · exact ⟨z, List.mem_append_left _ hz, e⟩
                      · exact ⟨y, List.mem_append_right _ (List.mem_singleton.2 rfl), e⟩
                    · rintro ⟨z, hz, e⟩
                      rcases List.mem_append.1 hz with hz | hz
                      · exact .inl ⟨z, hz, e⟩
                      · rw [List.mem_singleton.1 hz] at e
                        exact .inr e)
                  cases fb with
                  | true =>
                    have HN1 := HN true (by simp)
                    clear HN HFQ hcc2
                    go_wp2_with fail
                    go_quiet (fail)
                    go_wp2_with fail
                    go_roundw
                    case rel => exact ⟨true, q + 1, rfl, by go_num, HQ.out, hid ⟨fun _ => HN1.out.1 trivial, fun _ => rfl⟩, hb7.trans ⟨rfl, rfl, rfl, Nat.le_refl _, fun _ _ => rfl⟩⟩
                    case measure => have := HQ.out; simp [intOf]; omega
                  | false =>
                    have HN1 := HN (sameE y.1 x.1) (by rw [sameE_iff]; simp)
                    have hS : ∀ ws, Below w6.heap.size w6 ws → Calls Try.prog 18 #[.agg #[.int .i64 y.1.seq, .int .i64 y.1.time, .slice y.2.1 y.1.labs.length y.2.2, .string ⟨y.1.line.toArray⟩], .agg #[.int .i64 x.1.seq, .int .i64 x.1.time, .slice x.2.1 x.1.labs.length x.2.2, .string ⟨x.1.line.toArray⟩]] ws fun e w2 => e = .returned (.bool (sameE y.1 x.1)) ∧ Below ws.heap.size ws w2 := fun ws hw => ESame_is y x ws (hy.1.below (bw6.trans (hw.mono bw6.size))) (hLab.out ws (t26.trans (Tch.of_below hw))) (by have := hy.2.2; omega)
                    generalize sameE y.1 x.1 = sb at *
                    have mkS : ∀ ws, Below w6.heap.size w6 ws → Below w6.heap.size w6 ws ∧ ws.cell? ⟨b3, off3 + k, none⟩ = some (.slice (some ⟨b4, off4, none⟩) rl.length rc) ∧ ws.cell? ⟨b4, off4 + q * 4, none⟩ = some (.int .i64 y.1.seq) ∧ ws.cell? ⟨b4, off4 + q * 4 + 1, none⟩ = some (.int .i64 y.1.time) ∧ ws.cell? ⟨b4, off4 + q * 4 + 2, none⟩ = some (.slice y.2.1 y.1.labs.length y.2.2) ∧ ws.cell? ⟨b4, off4 + q * 4 + 3, none⟩ = some (.string ⟨y.1.line.toArray⟩) ∧ ws.cell? ⟨b, off + i * 4, none⟩ = some (.int .i64 x.1.seq) ∧ ws.cell? ⟨b, off + i * 4 + 1, none⟩ = some (.int .i64 x.1.time) ∧ ws.cell? ⟨b, off + i * 4 + 2, none⟩ = some (.slice x.2.1 x.1.labs.length x.2.2) ∧ ws.cell? ⟨b, off + i * 4 + 3, none⟩ = some (.string ⟨x.1.line.toArray⟩) := fun ws hw => by
                      obtain ⟨a0, a1, a2, a3⟩ := hcc2 ws (bw6.trans (hw.mono bw6.size))
                      obtain ⟨e0, e1, e2, e3⟩ := HC.out ws (t26.trans (Tch.of_below hw))
                      exact ⟨hw, HC3.out ws (bw6.trans (hw.mono bw6.size)), a0, a1, a2, a3, e0, e1, e2, e3⟩
                    have hk7 := mkS wr.drew hb7.drew
                    clear HN HFQ hcc2 c4 x0 x1 x2 x3 y0 y1 y2 y3 c3
                    have hk := hk7
                    clear hk7
                    go_wp2_with fail
                    go_region_held3 (fun ws => Below w6.heap.size w6 ws ∧ ws.cell? ⟨b3, off3 + k, none⟩ = some (.slice (some ⟨b4, off4, none⟩) rl.length rc) ∧ ws.cell? ⟨b4, off4 + q * 4, none⟩ = some (.int .i64 y.1.seq) ∧ ws.cell? ⟨b4, off4 + q * 4 + 1, none⟩ = some (.int .i64 y.1.time) ∧ ws.cell? ⟨b4, off4 + q * 4 + 2, none⟩ = some (.slice y.2.1 y.1.labs.length y.2.2) ∧ ws.cell? ⟨b4, off4 + q * 4 + 3, none⟩ = some (.string ⟨y.1.line.toArray⟩) ∧ ws.cell? ⟨b, off + i * 4, none⟩ = some (.int .i64 x.1.seq) ∧ ws.cell? ⟨b, off + i * 4 + 1, none⟩ = some (.int .i64 x.1.time) ∧ ws.cell? ⟨b, off + i * 4 + 2, none⟩ = some (.slice x.2.1 x.1.labs.length x.2.2) ∧ ws.cell? ⟨b, off + i * 4 + 3, none⟩ = some (.string ⟨x.1.line.toArray⟩)) (exact hk)
                      (first | (go_at_call 18; refine (hS _ hk.1).mono ?_; rintro e w8 ⟨rfl, b8⟩; have hk := mkS _ (hk.1.trans (b8.mono hk.1.size))))
                    go_wp2_with fail
                    go_roundw
                    case rel => exact ⟨sb, q + 1, rfl, by go_num, HQ.out, HN1, hk.1⟩
                    case measure => have := HQ.out; simp [intOf]; omega
                · have hqe : ¬ (q : Int) < (rl.length : Int) := by omega
                  have hql : q = rl.length := by omega
                  have HN : Hid (fb = true ↔ ∃ y ∈ upTo R (k + 1) 0, y.1 = x.1) := hid (by
                    have h1 : upTo R k q = upTo R (k + 1) 0 := by rw [hql]; exact HTN.out
                    rw [← h1]
                    exact HFQ.out)
                  clear HFQ hql
                  go_wp2
                  go_roundw
                  case rel => exact ⟨fb, k + 1, rfl, by go_num, HKR.out, HN, hb7⟩
                  case measure => have := HKR.out; simp [intOf]; omega
            · have hke : ¬ (k : Int) < (R.length : Int) := by omega
              obtain rfl : k = R.length := by omega
              have hfb : fb = true := by
                rw [HFB.out, upTo_all]
                exact hfrom.out
              subst hfb
              have s7 := s6.touch (Tch.of_below hb6 (S := fun _ => False)) (fun h => h)
              clear s6 HFB
              go_wp2
              go_roundw
              case rel => exact ⟨i + 1, n + 1, _, by go_num, HI.out, s7, HF2, t26.trans (Tch.of_below hb6)⟩
              case measure => have := HI.out; simp [intOf]; omega
        · obtain rfl : i = M1.length := by omega
          have hniM : ¬ (M1.length : Int) < (M1.length : Int) := by omega
          have bwr : Below W.heap.size W wr := Tch.below bw2 ht (fun j e => by rw [e]; exact Nat.le_refl _) bw2.size
          have rdM : KEnt.Rd wr (.slice A2 M1.length c2) M1 := (O2.out.1.touch ht (fun k e e2 => by have := (O2.out.1.lt k e2).1; omega)).rd
          have GO := hid (fun ws (hw : Below wr.heap.size wr ws) => GOrd_is (.slice A2 M1.length c2) nb M1 ws (rdM.below hw) hs1)
          have hM9 := MBf.made wr
          have hb9 : Below wr.heap.size wr (wr.alloc (.map #[] 0)) := (Below.refl _ wr).alloc (Nat.le_refl _) _
          clear hM HF CM LM LMz Hin HK1 HK2 O2 ht rdM
          go_wp2
          generalize hw9 : wr.alloc (.map #[] 0) = w9 at *
          generalize hwo : wr = wo at *
          go_loopw [13, 15] (fun nv iv ws => ∃ (i nn n : Nat) (f : Int → Bool), nv = .int .i64 nn ∧ iv = .int .i64 i ∧ i ≤ R.length ∧ MBf ws wo.heap.size n f ∧ Hid (n ≤ (upTo R i 0).length ∧ (∀ z, f z = true ↔ ∃ x ∈ upTo R i 0, x.1.seq = z) ∧ nn = (outs kyV [] (upTo R i 0)).length) ∧ Below wo.heap.size wo ws) (fun _ iv _ => R.length - (intOf iv).toNat)
          case atStart => exact ⟨0, 0, 0, _, rfl, rfl, by omega, hM9, hid ⟨by simp [upTo], fun z => by simp [upTo], by simp [upTo, outs]⟩, hb9⟩
          case round =>
            obtain ⟨i, nn, n, f, rfl, rfl, hi, hM, HM, hbw⟩ := hrel
            by_cases hLt : i < R.length
            · obtain ⟨b, off, hA, hc⟩ := ROW.out i hLt
              have hmem : R[i] ∈ R := List.getElem_mem hLt
              have hE := hid (ENT.out _ hmem)
              subst hA
              have hil : (i : Int) < (R.length : Int) := by omega
              have HI := hid hLt
              have HC := hid hc
              have HTN := hid (upTo_next hLt)
              have HUS : Hid (∀ k (hk : k < R[i].l.length), upTo R i (k + 1) = upTo R i k ++ [R[i].l[k]]) := hid (fun k hk => upTo_succ hLt hk)
              have HUL : Hid (∀ k, (upTo R i k).length ≤ 1099511627776) := hid (fun k => Nat.le_trans (upTo_len R hLt) HT.out)
              have HWF : Hid (∀ k (hk : k < R[i].l.length), wfI (R[i].l[k]).1.seq) := hid (fun k hk => ((HR.out.2 _ hmem).2 _ (List.getElem_mem hk)).2.1)
              have hrl : R[i].l.length ≤ 1099511627776 := HZ.out.one hmem
              clear hc hmem ROW ENT
              generalize R[i] = r at *
              obtain ⟨rA, rc, rl⟩ := r
              simp only at hrl
              go_wp2
              go_loopw [13, 16] (fun nv kv ws => ∃ (k nn n : Nat) (f : Int → Bool), nv = .int .i64 nn ∧ kv = .int .i64 k ∧ k ≤ rl.length ∧ MBf ws wo.heap.size n f ∧ Hid (n ≤ (upTo R i k).length ∧ (∀ z, f z = true ↔ ∃ x ∈ upTo R i k, x.1.seq = z) ∧ nn = (outs kyV [] (upTo R i k)).length) ∧ Below wo.heap.size wo ws) (fun _ kv _ => rl.length - (intOf kv).toNat)
              case atStart => exact ⟨0, nn, n, f, rfl, rfl, by omega, hM, HM, hbw⟩
              case round =>
                obtain ⟨k, nn, n, f, rfl, rfl, hk, hM2, HM2, hbw2⟩ := hrel
                have bW2 := bwr.trans (hbw2.mono bwr.size)
                have c2 : wr.cell? ⟨b, off + i, none⟩ = some (.slice rA rl.length rc) := HC.out _ bW2
                by_cases hkl : k < rl.length
                · obtain ⟨b2, off2, hA2, hcc⟩ := hE.out k hkl
                  have hA3 : rA = some ⟨b2, off2, none⟩ := hA2
                  subst hA3
                  obtain ⟨y0, _, _, _⟩ := hcc _ bW2
                  have hwx : wfI (rl[k]).1.seq := HWF.out k hkl
                  have hus : upTo R i (k + 1) = upTo R i k ++ [rl[k]] := HUS.out k hkl
                  have HUK := hid hus
                  have hkI : (k : Int) < (rl.length : Int) := by omega
                  have HK := hid hkl
                  clear hcc hus hA2
                  change wr.cell? ⟨b2, off2 + k * 4, none⟩ = some (.int .i64 (rl[k]).1.seq) at y0
                  generalize rl[k] = x at *
                  have hml9 : n < maxLen := by have h1 := HM2.out.1; have h2 := HUL.out k; unfold maxLen; omega
                  have hnn : (nn : Int) ≤ 1099511627776 := by have h1 := HM2.out.2.2; have h2 := HUL.out k; have h3 := outs_le kyV [] (upTo R i k); omega
                  have lk := hM2.look x.1.seq hwx
                  have HLEN : Hid ((outs kyV [] (upTo R i (k + 1))).length = (outs kyV [] (upTo R i k)).length + (if f x.1.seq = true then 0 else 1)) := hid (by
                    rw [HUK.out, outs_snoc]
                    congr 1
                    have h := HM2.out.2.1 x.1.seq
                    by_cases hf : f x.1.seq = true
                    · rw [if_pos hf, if_pos (.inr (h.1 hf))]
                    · rw [if_neg hf, if_neg (fun h2 => hf (h.2 (h2.resolve_left (by simp))))])
                  have MEM : Hid (∀ z, (∃ y ∈ upTo R i (k + 1), y.1.seq = z) ↔ z = x.1.seq ∨ ∃ y ∈ upTo R i k, y.1.seq = z) := hid (fun z => by
                    rw [HUK.out]
                    constructor
                    · rintro ⟨y, hy, e⟩
                      rcases List.mem_append.1 hy with hy | hy
                      · exact .inr ⟨y, hy, e⟩
                      · rw [List.mem_singleton.1 hy] at e
                        exact .inl e.symm
                    · rintro (e | ⟨y, hy, e⟩)
                      · exact ⟨x, List.mem_append_right _ (List.mem_singleton.2 rfl), e.symm⟩
                      · exact ⟨y, List.mem_append_left _ hy, e⟩)
                  have HLL : Hid ((upTo R i (k + 1)).length = (upTo R i k).length + 1) := hid (by rw [HUK.out, List.length_append]; rfl)
                  cases hfx : f x.1.seq with
                  | true =>
                    rw [hfx] at lk
                    have HN : Hid (n ≤ (upTo R i (k + 1)).length ∧ (∀ z, f z = true ↔ ∃ y ∈ upTo R i (k + 1), y.1.seq = z) ∧ nn = (outs kyV [] (upTo R i (k + 1))).length) := hid (by
                      refine ⟨by rw [HLL.out]; have := HM2.out.1; omega, fun z => ?_, by rw [HLEN.out, if_pos hfx]; exact HM2.out.2.2⟩
                      rw [MEM.out z, HM2.out.2.1 z]
                      constructor
                      · exact fun h => .inr h
                      · rintro (h | h)
                        · rw [h]; exact (HM2.out.2.1 _).1 hfx
                        · exact h)
                    clear HM2 hE HC HWF HUS HLEN MEM hfx
                    go_wp2
                    go_roundw
                    case rel => exact ⟨k + 1, nn, n, f, rfl, by go_num, HK.out, hM2, HN, hbw2⟩
                    case measure => have := HK.out; simp [intOf]; omega
                  | false =>
                    rw [hfx] at lk
                    obtain ⟨w6, hst, s6, t6⟩ := hM2.store x.1.seq true hwx hml9
                    have b6 : Below wo.heap.size wo w6 := Tch.below hbw2 t6 (fun j e => by rw [e]; exact Nat.le_refl _) hbw2.size
                    have HN : Hid (n + 1 ≤ (upTo R i (k + 1)).length ∧ (∀ z, (if z = x.1.seq then true else f z) = true ↔ ∃ y ∈ upTo R i (k + 1), y.1.seq = z) ∧ nn + 1 = (outs kyV [] (upTo R i (k + 1))).length) := hid (by
                      refine ⟨by rw [HLL.out]; have := HM2.out.1; omega, fun z => ?_, by rw [HLEN.out, hfx]; have := HM2.out.2.2; simp; omega⟩
                      rw [MEM.out z, ← HM2.out.2.1 z]
                      by_cases hz : z = x.1.seq
                      · simp [hz]
                      · simp [hz])
                    clear HM2 hE HC HWF HUS HLEN MEM hfx hM2
                    go_wp2
                    go_roundw
                    case rel => exact ⟨k + 1, nn + 1, n + 1, _, by go_num, by go_num, HK.out, s6, HN, b6⟩
                    case measure => have := HK.out; simp [intOf]; omega
                · have hke : ¬ (k : Int) < (rl.length : Int) := by omega
                  have hkl2 : k = rl.length := by omega
                  have HN : Hid (n ≤ (upTo R (i + 1) 0).length ∧ (∀ z, f z = true ↔ ∃ x ∈ upTo R (i + 1) 0, x.1.seq = z) ∧ nn = (outs kyV [] (upTo R (i + 1) 0)).length) := hid (by
                    have h1 : upTo R i k = upTo R (i + 1) 0 := by rw [hkl2]; exact HTN.out
                    rw [← h1]
                    exact HM2.out)
                  clear HM2 HM hkl2
                  go_wp2
                  go_roundw
                  case rel => exact ⟨i + 1, nn, n, f, rfl, by go_num, HI.out, hM2, HN, hbw2⟩
                  case measure => have := HI.out; simp [intOf]; omega
            · have hniR : ¬ (i : Int) < (R.length : Int) := by omega
              obtain rfl : i = R.length := by omega
              have hnn : nn = M1.length := by rw [HM.out.2.2, upTo_all, HK3.out]
              subst hnn
              have GO2 := GO.out wr hbw
              rw [HK4.out] at GO2
              clear HM GO HK3 HK4 hM
              go_wp2_with (first
                | (go_at_call 25; refine GO2.mono ?_; rintro e w5 ⟨rfl, b5⟩)
                | (go_at_call 14; refine (knows_is _).mono ?_; rintro e w8 ⟨rfl, b8⟩))
              go_ret
              have h1 := bwr.trans (hbw.mono bwr.size)
              exact ⟨rfl, h1.trans ((b5.mono h1.size).trans (b8.mono (Nat.le_trans h1.size b5.size)))⟩
end Go.Proofs.Ytbebhcdnnfgchaa
