/-
  What the reference's PutBatch and GetBatch answer. Conditions: the entries and bytes can be read; sizes as each theorem names.
-/
import Derived.Test.YtffpphigmdehfaaDoorRefBatch
import Derived.Test.YtffpphigmdehfaaDoorEntRGet
import Derived.Test.YtffpphigmdehfaaDoorBatGet2
import Derived.Test.YtffpphigmdehfaaDoorBatMath
namespace Go.Proofs.YtffpphigmdehfaaDoor
open Go.RowKit Go.Icz
set_option maxHeartbeats 1000000 in
set_option maxRecDepth 100000 in
theorem R3PutBatch_is (v : Value) (l : List Ent) (w : World) (hR : RdE w v l) (hz : ∀ x ∈ l, entZ x) (hlen : l.length ≤ 4611686018427387904) :
    Calls Tryd.prog 30 #[v] w (BatOut l w) := by
  have hRt := R3RightBatch_is v l w hR hz hlen
  cases hr : batR l with
  | false =>
    rw [hr] at hRt
    have HR := hid hr
    clear hr hR hz hlen
    go_enter Tryd.func30, Tryd.ntmps30
    go_wp2_with (go_at_call 79; refine hRt.mono ?_; rintro e w1 ⟨rfl, b1⟩; clear hRt)
    go_ret2
    unfold BatOut
    rw [HR.out, if_neg (by decide), if_neg (by decide)]
    exact ⟨_, rfl, Rd.nil _, b1⟩
  | true =>
    rw [hr] at hRt
    have HR := hid hr
    obtain ⟨⟨h1, h16⟩, hall⟩ := batR_all hr
    clear hr hlen
    obtain ⟨A, c, rfl, hlc, hcell⟩ := hR
    obtain ⟨b, off, rfl, hb, hcell⟩ := hcell h1
    have hNu := fun w1 => Bytes_any l.length w1 (by omega)
    have hnl := num_len8 (n := l.length) (by omega)
    go_enter Tryd.func30, Tryd.ntmps30
    go_wp2_with (first
      | (go_at_call 79; refine hRt.mono ?_; rintro e w1 ⟨rfl, b1⟩; clear hRt)
      | (go_at_call 80; refine (hNu _).mono ?_; rintro e w3 ⟨v3, rfl, o3, b3⟩; have bw3 := b1.trans (b3.mono b1.size); have ow3 := o3.mono b1.size; clear hNu b3 o3))
    go_loopw [4, 5] (fun bv iv wr => ∃ (i : Nat) (acc : List Nat), iv = .int .i64 i ∧ i ≤ l.length ∧ Own wr w.heap.size bv acc ∧ Below w.heap.size w wr ∧ acc.length ≤ 8 + 5500 * i ∧ Hid (batB l = acc ++ batL (l.drop i))) (fun _ iv _ => l.length - (intOf iv).toNat)
    case atStart => exact ⟨0, num l.length, rfl, by omega, ow3, bw3, by omega, hid (by simp [batB])⟩
    case round =>
      obtain ⟨i, acc, rfl, hi, ho, hbw, hacc, HX⟩ := hrel
      by_cases hlt : i < l.length
      · obtain ⟨A', c', q0, q1, q2, q3, rl⟩ := hcell i hlt
        have q0 := (hbw.cell (p := ⟨b, off + i * 4, none⟩) hb).trans q0
        have q1 := (hbw.cell (p := ⟨b, off + i * 4 + 1, none⟩) hb).trans q1
        have q2 := (hbw.cell (p := ⟨b, off + i * 4 + 2, none⟩) hb).trans q2
        have q3 := (hbw.cell (p := ⟨b, off + i * 4 + 3, none⟩) hb).trans q3
        have rl := rl.below hbw
        have hxr := hall l[i] (List.getElem_mem hlt)
        have HX2 : Hid (batB l = (acc ++ txt (str (entB l[i]))) ++ batL (l.drop (i + 1))) := hid (by rw [HX.out, List.drop_eq_getElem_cons hlt]; simp [batL])
        clear hcell HX
        generalize l[i] = x at *
        have hP := R3Bytes_is x A' c' wr rl hxr
        have hel := entB_len hxr
        have hTx := fun w2 => TextBytes_any (str (entB x)) w2 (by rw [str_len]; omega)
        have htl := txt_len2 (str (entB x)) (by rw [str_len]; omega)
        rw [str_len] at htl
        clear hxr hall hz
        unfold entV at hP
        have e1 : acc.length + (txt (str (entB x))).length ≤ 140737488355328 := by omega
        have e2 : (acc ++ txt (str (entB x))).length ≤ 8 + 5500 * (i + 1) := by simp; omega
        generalize txt (str (entB x)) = t at *
        generalize entB x = eb at *
        clear hel htl
        have hwz := hbw.size
        go_wp2_with (first
          | (go_at_call 62; go_loud (refine hP.mono ?_; rintro e w5 ⟨v5, rfl, o5, b5⟩; have cv := conv_rd std o5.rd; have o5a := ho.below b5; have d5 := hbw.trans (b5.mono hwz); clear hP ho))
          | (go_at_call 81; go_loud (refine (hTx _).mono ?_; rintro e w7 ⟨v7, rfl, o7, b7⟩; have o7a := o5a.below b7; have d7 := d5.trans (b7.mono d5.size); have z7 := d7.size; clear hTx o5a cv))
          | (at_builtin; go_loud (refine wp_appR std rfl (.tmp 18) (.tmp 25) rfl w.heap.size _ _ acc t rfl o7a rfl o7.rd e1 z7 ?_; intro v9 w9 o9 b9))
          | fail)
        go_roundw
        case rel => exact ⟨i + 1, acc ++ t, by go_num, by omega, o9, d7.trans b9, e2, HX2⟩
        case measure => simp [intOf]; omega
      · have HE : Hid (batB l = acc) := hid (by rw [HX.out, List.drop_eq_nil_of_le (by omega)]; simp [batL])
        clear hcell HX hall hz
        go_wp2
        go_ret2
        unfold BatOut
        rw [HR.out, if_pos rfl, if_pos rfl, HE.out]
        exact ⟨_, rfl, ho.rd, hbw⟩
set_option maxHeartbeats 1000000 in
set_option maxRecDepth 100000 in
theorem R3GetBatch_is (v : Value) (l : List Nat) (w : World) (hv : Rd w v l) (hl : ∀ c ∈ l, c < 256) (hlen : l.length ≤ 140737488351232) :
    Calls Tryd.prog 32 #[v] w (BatGOut l w) := by
  have HN := RNew_any v l w hv hlen
  obtain ⟨A0, c0, rfl, _, _⟩ := hv
  have q1 := numR_D l 0 0
  rw [List.drop_zero] at q1
  have HN2 := fun w1 B g (d : RDec w1 B g l 0 0) => RNumber_dec B g 0 0 l w1 d hl (by omega)
  have HX : Hid (batG l = if 16 < (numR l 0 0).1 then none else (entsD (l.drop (numR l 0 0).2.1) (numR l 0 0).2.2 (numR l 0 0).1).bind fun s => if doneD s.2.1 s.2.2 = 0 ∧ batR s.1 = true then some s.1 else none) := hid (by unfold batG; rw [q1])
  generalize (numR l 0 0).1 = n at *
  generalize (numR l 0 0).2.1 = p1 at *
  generalize (numR l 0 0).2.2 = e1 at *
  clear q1
  go_enter Tryd.func32, Tryd.ntmps32
  go_wp2_with (first
    | (go_at_call 70; refine HN.mono ?_; rintro e w1 ⟨g, rfl, hg, d1, b1⟩; have hgB := rdec_lt d1; have hwB := b1.size; clear HN)
    | (go_at_call 71; refine (HN2 _ _ _ d1).mono ?_; rintro e w2 ⟨rfl, d2, b2'⟩; have b2 := b1.grown b2' b1.size (fun k hk => by cases hk; exact hg); have hB := b2'.size; clear HN2 d1 b1 b2'))
  generalize w1.heap.size = B at *
  go_loopw [6, 7] (fun lv kv wr => ∃ (k : Nat) (acc : List Ent) (a er : Nat) (m : List (Ent × Value)), kv = .int .i64 k ∧ k ≤ min n 17 ∧ OwnE wr B lv m ∧ Hid (m.map (·.1) = acc ∧ m.length = k) ∧ RDec wr B g l a er ∧ Hid (entsD (l.drop p1) e1 k = some (acc, l.drop a, er)) ∧ Below w.heap.size w wr ∧ B ≤ wr.heap.size) (fun _ kv _ => n - (intOf kv).toNat)
  case atStart => exact ⟨0, [], p1, e1, [], rfl, by omega, OwnE.nil _ _, hid ⟨rfl, rfl⟩, d2, hid rfl, b2, hB⟩
  case round =>
    obtain ⟨k, acc, a, er, m, rfl, hk, ho, HM, hd, HE, hbw, hBw⟩ := hrel
    by_cases hlt : k < n ∧ k ≤ 16
    · have T1 := RText_dec B g er a l wr hd hl (by omega)
      have hx := txtR_D l a er
      have q3 : ∀ c ∈ (txtR l a er).1, c < 256 := fun c hc => hl c (List.mem_of_mem_drop (txtD_mem (l.drop a) er c (by rw [hx]; exact hc)))
      have q4 : (txtR l a er).1.length ≤ 140737488351232 := by
        have h1 := (txtD_sub (l.drop a) er).2.2
        rw [hx, List.length_drop] at h1
        simp only at h1
        omega
      have HS : Hid (entsD (l.drop p1) e1 (k + 1) = if entOk (txtR l a er).1 = true then some (acc ++ [entOf (txtR l a er).1], l.drop (txtR l a er).2.1, (txtR l a er).2.2) else none) := hid (by
        show (entsD (l.drop p1) e1 k).bind stepB = _
        rw [HE.out, Option.bind_some]
        unfold stepB
        simp only [hx])
      generalize (txtR l a er).1 = t at *
      generalize (txtR l a er).2.1 = a1 at *
      generalize (txtR l a er).2.2 = er1 at *
      have CV := fun w1 n hn => conv_sb2 (str t) w1 n hn
      rw [nats_str t q3, str_len] at CV
      have G := fun v1 w1 (g : Rd w1 v1 t) => R3Get_is v1 t w1 g q3 q4
      unfold GetOut entV at G
      have hml : (m.length + 1) * 56 ≤ 140737488355328 := by have := HM.out.2; omega
      obtain ⟨hlt1, hlt2⟩ := hlt
      have hlt1' : (k : Int) < (n : Int) := by omega
      have hlt2' : (k : Int) ≤ 16 := by omega
      clear hx q3 q4 hl HE
      cases hok : entOk t with
      | false =>
        have HF : Hid (batG l = none) := hid (by
          have h1 := HS.out
          rw [if_neg (by rw [hok]; decide)] at h1
          rw [HX.out]
          split
          · rfl
          · rw [entsD_none (l.drop p1) e1 (k + 1) h1 n (by omega)]
            rfl)
        have hN := getN_no hok
        rw [hN] at G
        clear hN hok HX HS HM
        generalize getE t = y at *
        go_wp2_with (first
          | (go_at_call 73; go_loud (refine T1.mono ?_; rintro e w3 ⟨rfl, d3, b3⟩; have c3 := hbw.grown b3 hbw.size (fun k hk => by cases hk; exact Nat.le_trans (by omega) hg); obtain ⟨cc, cv, crd, cb⟩ := CV w3 w3.heap.size rfl; have G4 := G _ _ crd; clear T1 CV G))
          | (go_at_call 19; go_loud (refine G4.mono ?_; rintro e w4 ⟨A4, c4, rfl, r4, b4⟩; have bw4 := (c3.trans (cb.mono c3.size)).trans (b4.mono (c3.trans (cb.mono c3.size)).size); clear G4 cv)))
        go_ret2
        obtain ⟨hbE, hbN⟩ := bat_no HF.out
        exact ⟨[], _, by rw [hbN]; rfl, OwnE.nil _ _, hid (by rw [hbE]; rfl), bw4.alloc bw4.size _⟩
      | true =>
        have hN := getN_yes hok
        have hE := getE_yes hok
        have HS2 : Hid (entsD (l.drop p1) e1 (k + 1) = some (acc ++ [entOf t], l.drop a1, er1)) := hid (by rw [HS.out, if_pos hok])
        rw [hN, hE] at G
        clear hN hE hok HS
        generalize entOf t = y at *
        go_wp2_with (first
          | (go_at_call 73; go_loud (refine T1.mono ?_; rintro e w3 ⟨rfl, d3, b3⟩; have c3 := hbw.grown b3 hbw.size (fun k hk => by cases hk; exact Nat.le_trans (by omega) hg); obtain ⟨cc, cv, crd, cb⟩ := CV w3 w3.heap.size rfl; have G4 := G _ _ crd; have z3 := Nat.le_trans hBw b3.size; have o3 := OwnE.grown ho b3 hgB; clear T1 CV G ho))
          | (go_at_call 19; go_loud (refine G4.mono ?_; rintro e w4 ⟨A4, c4, rfl, r4, b4⟩; have cb4 := cb.trans (b4.mono cb.size); have bw4 := c3.trans (cb4.mono c3.size); have z4 := Nat.le_trans z3 cb4.size; have o4 := (o3.below cb4).alloc (.cells #[.int .i64 y.seq, .int .i64 y.time, .slice A4 y.labs.length c4, .string ⟨y.line.toArray⟩] 24); have d4 := (d3.below (cb4.mono z3)).below ((Below.refl B w4).alloc z4 (.cells #[.int .i64 y.seq, .int .i64 y.time, .slice A4 y.labs.length c4, .string ⟨y.line.toArray⟩] 24)); have ol4 := (r4.mono (show B ≤ _ from Nat.le_trans z3 cb.size)).alloc (.cells #[.int .i64 y.seq, .int .i64 y.time, .slice A4 y.labs.length c4, .string ⟨y.line.toArray⟩] 24); have bw4' := bw4.alloc bw4.size (.cells #[.int .i64 y.seq, .int .i64 y.time, .slice A4 y.labs.length c4, .string ⟨y.line.toArray⟩] 24); clear G4 cv o3 d3))
          | (at_builtin; go_loud (refine wp_appE rfl (.tmp 32) (.tmp 34) rfl B _ m (y, .slice A4 y.labs.length c4) A4 c4 rfl rfl o4 ol4 (by simp [Act.eval]) hml (by simp; omega) ?_; intro v5 w5 o5 b5)))
        go_roundw
        case rel => exact ⟨k + 1, acc ++ [y], a1, er1, m ++ [(y, .slice A4 y.labs.length c4)], by go_num, by omega, o5, hid ⟨by rw [List.map_append, HM.out.1]; rfl, by rw [List.length_append, HM.out.2]; rfl⟩, d4.below (below_alloc (by simp; omega) b5), HS2, bw4'.trans ((below_alloc (by simp; omega) b5).mono (by omega)), by have := b5.size; simp at this; omega⟩
        case measure => simp [intOf]; omega
    · obtain ⟨s1, s2, s3, s4⟩ := entsD_sub (l.drop p1) e1 (by rw [List.length_drop]; omega) k _ HE.out
      simp only at s1 s4
      have hD := RDone_dec B g er a l wr hd (by omega)
      have HM1 : Hid (m.map (·.1) = acc) := hid HM.out.1
      have hR := fun w1 v1 (gR : RdE w1 v1 acc) => R3RightBatch_is v1 acc w1 gR s4 (by omega)
      have rd := ho.rd
      rw [HM.out.1] at rd
      have HX2 : Hid (batG l = if doneD (l.drop a) er = 0 ∧ batR acc = true then some acc else none) := hid (by
        rw [HX.out]
        by_cases h : 16 < n
        · rw [if_pos h, if_neg]
          intro h2
          have h3 := h2.2
          simp only [batR, Bool.and_eq_true, decide_eq_true_eq] at h3
          omega
        · rw [if_neg h]
          obtain rfl : k = n := by omega
          rw [HE.out]
          rfl)
      have ho2 := ho.mono hwB
      have hg16 : (decide ((k : Int) < (n : Int)) && decide ((k : Int) ≤ 16)) = false := by
        rw [Bool.and_eq_false_iff]
        rcases Nat.lt_or_ge k n with h | h
        · exact .inr (decide_eq_false (by omega))
        · exact .inl (decide_eq_false (by omega))
      by_cases hkn : k < n
      · have hkn' : (k : Int) < (n : Int) := by omega
        have hk16 : ¬ (k : Int) ≤ 16 := by omega
        have hrf : batR acc = false := by
          cases h : batR acc with
          | false => rfl
          | true =>
            simp only [batR, Bool.and_eq_true, decide_eq_true_eq] at h
            omega
        have HY : Hid (batG l = none) := hid (by rw [HX2.out, if_neg (by rw [hrf]; simp)])
        clear HX HX2 HE s1 s2 s3 s4 hl HM hlt hg16
        obtain ⟨hbE, hbN⟩ := bat_no HY.out
        have HBE := hid hbE
        have HBN := hid hbN
        clear hbE hbN
        by_cases h0 : doneD (l.drop a) er = 0
        · rw [h0] at hD
          rw [hrf] at hR
          clear h0
          go_wp2_with (first
            | (go_at_call 74; refine hD.mono ?_; rintro e w5 ⟨rfl, nn, rfl⟩; have rd5 : RdE (wr.drewN nn) _ acc := rd; have bw5 := below_dn nn hbw; have ho5 : OwnE (wr.drewN nn) w.heap.size _ m := ho2; clear hD)
            | (go_at_call 79; refine (hR _ _ rd5).mono ?_; rintro e w6 ⟨rfl, b6⟩; clear hR))
          go_ret2
          exact ⟨[], _, by rw [HBN.out]; rfl, OwnE.nil _ _, hid (by rw [HBE.out]; rfl), bw5.trans (b6.mono bw5.size)⟩
        · have hne : ((doneD (l.drop a) er : Int) == 0) = false := by simp; omega
          have hne2 : ((doneD (l.drop a) er : Int) != 0) = true := by rw [bne, hne]; rfl
          generalize doneD (l.drop a) er = er2 at *
          clear h0 hR
          go_wp2_with (go_at_call 74; refine hD.mono ?_; rintro e w5 ⟨rfl, nn, rfl⟩; have rd5 : RdE (wr.drewN nn) _ acc := rd; have bw5 := below_dn nn hbw; have ho5 : OwnE (wr.drewN nn) w.heap.size _ m := ho2; clear hD)
          go_ret2
          exact ⟨[], _, by rw [HBN.out]; rfl, OwnE.nil _ _, hid (by rw [HBE.out]; rfl), bw5⟩
      · have hkn' : ¬ (k : Int) < (n : Int) := by omega
        clear HX HE s1 s2 s3 s4 hl HM hlt hg16
        by_cases h0 : doneD (l.drop a) er = 0
        · rw [h0] at hD
          cases hr : batR acc with
          | true =>
            rw [hr] at hR
            obtain ⟨hbE, hbN⟩ := bat_yes (show batG l = some acc by rw [HX2.out, if_pos ⟨h0, hr⟩])
            have HBE := hid hbE
            have HBN := hid hbN
            clear hbE hbN HX2 h0 hr
            go_wp2_with (first
              | (go_at_call 74; refine hD.mono ?_; rintro e w5 ⟨rfl, nn, rfl⟩; have rd5 : RdE (wr.drewN nn) _ acc := rd; have bw5 := below_dn nn hbw; have ho5 : OwnE (wr.drewN nn) w.heap.size _ m := ho2; clear hD)
              | (go_at_call 79; refine (hR _ _ rd5).mono ?_; rintro e w6 ⟨rfl, b6⟩; clear hR))
            go_ret2
            exact ⟨m, _, by rw [HBN.out]; rfl, ho5.below b6, hid (by rw [HBE.out]; exact HM1.out), bw5.trans (b6.mono bw5.size)⟩
          | false =>
            rw [hr] at hR
            obtain ⟨hbE, hbN⟩ := bat_no (show batG l = none by rw [HX2.out, if_neg (by rw [hr]; simp)])
            have HBE := hid hbE
            have HBN := hid hbN
            clear hbE hbN HX2 h0 hr
            go_wp2_with (first
              | (go_at_call 74; refine hD.mono ?_; rintro e w5 ⟨rfl, nn, rfl⟩; have rd5 : RdE (wr.drewN nn) _ acc := rd; have bw5 := below_dn nn hbw; have ho5 : OwnE (wr.drewN nn) w.heap.size _ m := ho2; clear hD)
              | (go_at_call 79; refine (hR _ _ rd5).mono ?_; rintro e w6 ⟨rfl, b6⟩; clear hR))
            go_ret2
            exact ⟨[], _, by rw [HBN.out]; rfl, OwnE.nil _ _, hid (by rw [HBE.out]; rfl), bw5.trans (b6.mono bw5.size)⟩
        · obtain ⟨hbE, hbN⟩ := bat_no (show batG l = none by rw [HX2.out, if_neg (fun h => h0 h.1)])
          have HBE := hid hbE
          have HBN := hid hbN
          have hne : ((doneD (l.drop a) er : Int) == 0) = false := by simp; omega
          have hne2 : ((doneD (l.drop a) er : Int) != 0) = true := by rw [bne, hne]; rfl
          clear hbE hbN HX2 hR
          generalize doneD (l.drop a) er = er2 at *
          clear h0
          go_wp2_with (go_at_call 74; refine hD.mono ?_; rintro e w5 ⟨rfl, nn, rfl⟩; have rd5 : RdE (wr.drewN nn) _ acc := rd; have bw5 := below_dn nn hbw; have ho5 : OwnE (wr.drewN nn) w.heap.size _ m := ho2; clear hD)
          go_ret2
          exact ⟨[], _, by rw [HBN.out]; rfl, OwnE.nil _ _, hid (by rw [HBE.out]; rfl), bw5⟩
end Go.Proofs.YtffpphigmdehfaaDoor
