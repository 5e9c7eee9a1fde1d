/-
  The law CacheBounds, walked. Conditions: the calls' sizes.
-/
import Derived.Test.YtflhgoecmcfkkaaCopn
import Derived.Test.YtflhgoecmcfkkaaCkey
namespace Go.Icz
theorem isIn_mem {l : List It} {e : It} (h : e ∈ l) : isIn e.key l = true := by
  unfold isIn
  rw [List.any_eq_true]
  exact ⟨e, h, by simp⟩
theorem valC_mem {l : List It} {e : It} (h : (l.map (·.key)).Nodup) (he : e ∈ l) : valC e.key l = e.val := by
  obtain ⟨xs, ys, rfl⟩ := List.append_of_mem he
  unfold valC
  rw [theIt_mid h]
theorem tot_take {l : List It} {j : Nat} (hj : j < l.length) : tot (l.take (j + 1)) = tot (l.take j) + (l[j].key.size + l[j].val.length) := by
  rw [← List.take_append_getElem hj, tot_app]
  simp [tot, sz]
theorem tot_take_le {l : List It} (j : Nat) : tot (l.take j) ≤ tot l := by
  have h := tot_app (l.take j) (l.drop j)
  rw [List.take_append_drop] at h
  omega
end Go.Icz
namespace Go.Proofs.Ytflhgoecmcfkkaa
open Go.RowKit Go.Icz Go.Maps
theorem isIn_put {li g : Nat} {k : ByteArray} {v : List Nat} {sv : Value} {l : List It} : isIn k (putL li k v g sv l) = true := by
  unfold putL isIn
  rw [List.any_append, List.any_cons]
  simp
theorem Put_big {w : World} {B q s m li : Nat} {hi mi : Int} {l : List It} (h : Ca w B q s m li hi mi l) (k : ByteArray) (hk : k.size ≤ 1099511627776) (u : Value) (v : List Nat) (hu : Rd w u v) (hv : v.length ≤ 1099511627776) (huF : 0 < v.length → ∀ b, u.ownBlock = some b → ¬ Foot s m l b) (hs : li < k.size + v.length) :
    Calls Try.prog 15 #[.pointer (some ⟨q, 0, none⟩), .string k, u] w fun e w' => e = .returned (.int .i64 6) ∧ Below w.heap.size w w' := by
  refine (Put_is h k hk u v hu hv huF).mono ?_
  rintro e w' (⟨_, h2, h3⟩ | ⟨h1, _⟩)
  · exact ⟨h2, h3⟩
  · omega
theorem wrap_add {a b c : Nat} (ha : a + b = c) (hc : c ≤ 1099511627776) : IntKind.i64.wrap ((a : Int) + (b : Int)) = (c : Int) := by rw [IntKind.wrap_i64]; omega
/-- A call, laid in a box of the law's. -/
def Bx (w : World) (g : Nat) (x : OpE) : Prop := w.heap[g]? = some (.cells #[.int .i64 x.kd, .string x.key, .slice x.A x.bs.length x.c] 34 (0, 0))
theorem Bx.cells {w : World} {g : Nat} {x : OpE} (h : Bx w g x) : w.cell? ⟨g, 0, none⟩ = some (.int .i64 x.kd) ∧ w.cell? ⟨g, 1, none⟩ = some (.string x.key) ∧ w.cell? ⟨g, 2, none⟩ = some (.slice x.A x.bs.length x.c) := ⟨held_cell h rfl, held_cell h rfl, held_cell h rfl⟩
theorem Bx.below {w w' : World} {g : Nat} {x : OpE} (h : Bx w g x) (k : Below w.heap.size w w') : Bx w' g x := (k.block g (row_lt h)).trans h
theorem Bx.foot {w w' : World} {g : Nat} {x : OpE} {B s m li : Nat} {hi mi : Int} {l : List It} (h : Bx w g x) (hs : Sh w B s m li hi mi l) (k : Tch (Foot s m l) w w') : Bx w' g x := k.row h (hs.qn h (by decide) (by decide))

set_option maxRecDepth 100000 in
set_option maxHeartbeats 8000000 in
theorem bounds_walk (lim : Int) (v : Value) (ops : List OpE) (W : World) (hR : RdO W v ops) (hlim : (Lit.int .i64 lim).wf = true) :
    Calls Try.prog 5 #[.int .i64 lim, v] W fun e w' => e = .returned (.bool true) ∧ Below W.heap.size W w' := by
  obtain ⟨A, c, rfl, hn, hops⟩ := hR
  obtain ⟨li, r2, r3, q1, q2, q3, hl1, hl2⟩ : ∃ (li : Nat) (r2 r3 : Int), IntKind.i64.wrap (lim.tmod 200 + 200) = r2 ∧ r2.tmod 200 = r3 ∧ IntKind.i64.wrap (1 + r3) = (li : Int) ∧ 1 ≤ li ∧ li ≤ 200 := by
    have h1 := Int.tmod_lt_of_pos lim (show (0 : Int) < 200 by omega)
    have h2 := Int.lt_tmod_of_pos lim (show (0 : Int) < 200 by omega)
    have h3 := Int.tmod_lt_of_pos (lim.tmod 200 + 200) (show (0 : Int) < 200 by omega)
    have h4 := Int.tmod_nonneg 200 (show 0 ≤ lim.tmod 200 + 200 by omega)
    refine ⟨(1 + (lim.tmod 200 + 200).tmod 200).toNat, lim.tmod 200 + 200, (lim.tmod 200 + 200).tmod 200, ?_, rfl, ?_, by omega, by omega⟩
    · rw [IntKind.wrap_i64]; omega
    · rw [IntKind.wrap_i64]; omega
  have hN := New_yes li W hl1 (by omega)
  generalize hq : W.heap.size + 1 + 1 = q at *
  generalize hs : W.heap.size + 1 = s at *
  generalize hr1 : lim.tmod 200 = r1 at *
  have t1 := True.intro
  go_enter Try.func5, Try.ntmps5
  go_wp2_with (first
    | (go_at_call 7; refine hN.mono ?_; rintro e w1 ⟨rfl, h1, b1⟩)
    | (go_at_call 9; refine (num_is _ _).mono ?_; rintro e w0 ⟨rfl, hw0⟩; have hw0 := hw0.symm; subst hw0)
    | (go_at_call 10; refine (knows_is _).mono ?_; rintro e w2 ⟨rfl, b2⟩))
  have hC2 := h1.below b2
  have hb20 := b1.trans (b2.mono b1.size)
  clear h1 b1 b2 hN q1 q2 q3 hr1
  go_loopw [7] (fun iv wr => ∃ (i : Nat) (hi mi : Int) (L : List It), iv = .int .i64 i ∧ i ≤ ops.length ∧ Ca wr W.heap.size q s W.heap.size li hi mi L ∧ Below W.heap.size W wr) (fun iv _ => ops.length - (intOf iv).toNat)
  case atStart => exact ⟨0, 0, 0, [], rfl, Nat.zero_le _, hC2, hb20⟩
  case round =>
    obtain ⟨i, hi, mi, L, rfl, hin, hC0, hb0⟩ := hrel
    clear hC2 hb20
    generalize wr = wo at *
    by_cases hio : i < ops.length
    · by_cases hi3 : i < 300
      · obtain ⟨b, off, hA, hbl, hcell⟩ := hops (by omega)
        subst hA
        obtain ⟨x0, x1, x2, hrd, hk1, hv1, _⟩ := hcell i hio
        have hioI : (i : Int) < (ops.length : Int) := by omega
        have hi3I : (i : Int) < 300 := by omega
        clear hcell hops
        generalize ops[i] = x at *
        obtain ⟨kd, key, xA, xc, bs⟩ := x
        dsimp only [OpE.v] at x0 x1 x2 hrd hk1 hv1
        have x0 := (hb0.cell (p := ⟨b, off + i * 3, none⟩) hbl).trans x0
        have x1 := (hb0.cell (p := ⟨b, off + (i * 3 + 1), none⟩) hbl).trans x1
        have x2 := (hb0.cell (p := ⟨b, off + (i * 3 + 2), none⟩) hbl).trans x2
        rw [← Nat.add_assoc] at x1 x2
        have ha := (Below.refl wo.heap.size wo).alloc (Nat.le_refl _) (.cells #[.int .i64 kd, .string key, .slice xA bs.length xc] 34)
        have hC1 := hC0.below ha
        have hb1 := hb0.trans (ha.mono hb0.size)
        have hbx : Bx (wo.alloc (.cells #[.int .i64 kd, .string key, .slice xA bs.length xc] 34)) wo.heap.size ⟨kd, key, xA, xc, bs⟩ := heap_alloc_new wo _
        have hrd1 := hrd.below hb1
        have huF : 0 < bs.length → ∀ b', (Value.slice xA bs.length xc).ownBlock = some b' → ¬ Foot s W.heap.size L b' := fun h0 b' hb' hf => by
          have h1 := Rd.lt hrd h0 b' hb'
          have h2 := (hC0.sh.lt b' hf).1
          omega
        by_cases k0 : kd = 0
        · subst k0
          by_cases hfit : key.size + bs.length ≤ li
          · have hP := Put_ok hC1 key _ bs hrd1 huF hfit
            go_wp2_with (first
              | (go_at_call 15; refine hP.mono ?_; rintro e w3 ⟨rfl, g, sv, hg, hC3, ht3⟩; have hb3 := hC1.keep hb1 ht3; have hK := Peek_is hC3 key (by unfold maxLen; omega); have hbx3 := hbx.foot hC1.sh ht3; obtain ⟨z0, z1, z2⟩ := hbx3.cells; rw [isIn_put] at hK; generalize putL li key bs g sv L = L3 at *; clear hP)
              | (go_at_call 9; refine (num_is _ _).mono ?_; rintro e w0 ⟨rfl, hw0⟩; have hw0 := hw0.symm; subst hw0)
              | (go_at_call 13; refine hK.mono ?_; rintro e w4 ⟨u4, rfl, o4, b4⟩; have hC := hC3.below b4; have hbt := hb3.trans (b4.mono hb3.size); obtain ⟨z0', z1', z2'⟩ := (hbx3.below b4).cells; clear hK z0 z1 z2 o4 hC3 hb3))
            clear hC0 hC1 hb0 hb1 hbx hrd hrd1 huF x0 x1 x2 ha hbx3 b4
            go_wp2_with (go_at_call 18; refine (Keys_is hC).mono ?_; rintro e wk ⟨ku, rfl, ko, kb⟩; obtain ⟨KA, kc, rfl, _⟩ := ko.rd.form)
            have hCk := hC.below kb
            have hbk := hbt.trans (kb.mono hbt.size)
            have kat := KS.at ko.rd
            have hks := hC.sh.ks
            have hle := hC.sh.le
            have hlen := hC.sh.len
            clear hC kb ko
            go_loopw [12, 14] (fun tv nv wr2 => ∃ j : Nat, nv = .int .i64 j ∧ j ≤ (L3).length ∧ tv = .int .i64 (tot ((L3).take j) : Nat) ∧ Below wk.heap.size wk wr2) (fun _ nv _ => (L3).length - (intOf nv).toNat)
            case atStart => exact ⟨0, rfl, Nat.zero_le _, rfl, Below.refl _ _⟩
            case round =>
              obtain ⟨j, rfl, hj, rfl, hb2⟩ := hrel
              by_cases hjl : j < (L3).length
              · obtain ⟨kblk, koff, hKA, hkl, hkc⟩ := kat (by rw [List.length_map]; omega)
                subst hKA
                have hkj := hkc j (by rw [List.length_map]; exact hjl)
                rw [List.getElem_map] at hkj
                have y0 := (hb2.cell (p := ⟨kblk, koff + j, none⟩) hkl).trans hkj
                have hP := Peek_is (hCk.below hb2) (L3)[j].key (by have := hCk.sh.small (List.getElem_mem hjl); unfold maxLen; omega)
                rw [isIn_mem (List.getElem_mem hjl), valC_mem hks (List.getElem_mem hjl)] at hP
                have hsm := hCk.sh.small (List.getElem_mem hjl)
                have htt := tot_take hjl
                have htl := tot_take_le (l := L3) j
                have htl2 := tot_take_le (l := L3) (j + 1)
                obtain ⟨ta, hta⟩ : ∃ ta, tot ((L3).take j) + (L3)[j].key.size = ta := ⟨_, rfl⟩
                have w1 := wrap_add hta (by omega)
                have w2 := wrap_add (a := ta) (b := (L3)[j].val.length) (c := tot ((L3).take (j + 1))) (by omega) (by omega)
                have hjI : (j : Int) < ((L3).length : Int) := by omega
                clear hkc hkj htt htl htl2 hsm hta
                generalize hTb : tot ((L3).take (j + 1)) = tb at *
                have hT := hid hTb
                clear hTb
                generalize tot ((L3).take j) = tj at *
                generalize (L3)[j].key = kj at *
                generalize (L3)[j].val = vj at *
                go_wp2_with (go_at_call 13; refine hP.mono ?_; rintro e w5 ⟨u5, rfl, o5, b5⟩; obtain ⟨A5, c5, rfl, _⟩ := id o5.rd; have y5 := (b5.cell (p := ⟨kblk, koff + j, none⟩) (Nat.lt_of_lt_of_le hkl hb2.size)).trans y0)
                go_roundw
                case rel => exact ⟨j + 1, by go_num, by omega, by rw [hT.out], hb2.trans (b5.mono hb2.size)⟩
                case measure => simp [intOf]; omega
              · obtain rfl : j = (L3).length := by omega
                have hU := Used_is (hCk.below hb2)
                have hd1 : decide (li < tot (L3)) = false := decide_eq_false (by omega)
                have hCe := hCk.below hb2
                have hbe := hbk.trans (hb2.mono hbk.size)
                rw [List.take_length]
                clear hCk hbk hb2 kat hks hle hlen
                generalize tot (L3) = tL at *
                go_wp2_with (go_at_call 17; refine hU.mono ?_; rintro e w6 ⟨rfl, h6⟩; have h6 := h6.symm; subst h6)
                go_roundw
                case rel => exact ⟨i + 1, hi, mi, L3, by go_num, by omega, hCe, hbe⟩
                case measure => simp [intOf]; omega
          · have hP := Put_big hC1 key (by omega) _ bs hrd1 (by omega) huF (by omega)
            have hws := wrap_add (a := key.size) (b := bs.length) rfl (by omega)
            have hdf : decide (((key.size + bs.length : Nat) : Int) ≤ (li : Int)) = false := decide_eq_false (by omega)
            go_wp2_with (first
              | (go_at_call 15; refine hP.mono ?_; rintro e w3 ⟨rfl, b3⟩; have hC3 := hC1.below b3; have hb3 := hb1.trans (b3.mono hb1.size); have hK := Peek_is hC3 key (by unfold maxLen; omega); have hbx3 := hbx.below b3; obtain ⟨z0, z1, z2⟩ := hbx3.cells; generalize isIn key L = ib at *; clear hP)
              | (go_at_call 9; refine (num_is _ _).mono ?_; rintro e w0 ⟨rfl, hw0⟩; have hw0 := hw0.symm; subst hw0)
              | (go_at_call 13; refine hK.mono ?_; rintro e w4 ⟨u4, rfl, o4, b4⟩; have hC := hC3.below b4; have hbt := hb3.trans (b4.mono hb3.size); obtain ⟨z0', z1', z2'⟩ := (hbx3.below b4).cells; clear hK z0 z1 z2 o4 hC3 hb3))
            clear hC0 hC1 hb0 hb1 hbx hrd hrd1 huF x0 x1 x2 ha hbx3 b4
            go_wp2_with (go_at_call 18; refine (Keys_is hC).mono ?_; rintro e wk ⟨ku, rfl, ko, kb⟩; obtain ⟨KA, kc, rfl, _⟩ := ko.rd.form)
            have hCk := hC.below kb
            have hbk := hbt.trans (kb.mono hbt.size)
            have kat := KS.at ko.rd
            have hks := hC.sh.ks
            have hle := hC.sh.le
            have hlen := hC.sh.len
            clear hC kb ko
            go_loopw [12, 14] (fun tv nv wr2 => ∃ j : Nat, nv = .int .i64 j ∧ j ≤ (L).length ∧ tv = .int .i64 (tot ((L).take j) : Nat) ∧ Below wk.heap.size wk wr2) (fun _ nv _ => (L).length - (intOf nv).toNat)
            case atStart => exact ⟨0, rfl, Nat.zero_le _, rfl, Below.refl _ _⟩
            case round =>
              obtain ⟨j, rfl, hj, rfl, hb2⟩ := hrel
              by_cases hjl : j < (L).length
              · obtain ⟨kblk, koff, hKA, hkl, hkc⟩ := kat (by rw [List.length_map]; omega)
                subst hKA
                have hkj := hkc j (by rw [List.length_map]; exact hjl)
                rw [List.getElem_map] at hkj
                have y0 := (hb2.cell (p := ⟨kblk, koff + j, none⟩) hkl).trans hkj
                have hP := Peek_is (hCk.below hb2) (L)[j].key (by have := hCk.sh.small (List.getElem_mem hjl); unfold maxLen; omega)
                rw [isIn_mem (List.getElem_mem hjl), valC_mem hks (List.getElem_mem hjl)] at hP
                have hsm := hCk.sh.small (List.getElem_mem hjl)
                have htt := tot_take hjl
                have htl := tot_take_le (l := L) j
                have htl2 := tot_take_le (l := L) (j + 1)
                obtain ⟨ta, hta⟩ : ∃ ta, tot ((L).take j) + (L)[j].key.size = ta := ⟨_, rfl⟩
                have w1 := wrap_add hta (by omega)
                have w2 := wrap_add (a := ta) (b := (L)[j].val.length) (c := tot ((L).take (j + 1))) (by omega) (by omega)
                have hjI : (j : Int) < ((L).length : Int) := by omega
                clear hkc hkj htt htl htl2 hsm hta
                generalize hTb : tot ((L).take (j + 1)) = tb at *
                have hT := hid hTb
                clear hTb
                generalize tot ((L).take j) = tj at *
                generalize (L)[j].key = kj at *
                generalize (L)[j].val = vj at *
                go_wp2_with (go_at_call 13; refine hP.mono ?_; rintro e w5 ⟨u5, rfl, o5, b5⟩; obtain ⟨A5, c5, rfl, _⟩ := id o5.rd; have y5 := (b5.cell (p := ⟨kblk, koff + j, none⟩) (Nat.lt_of_lt_of_le hkl hb2.size)).trans y0)
                go_roundw
                case rel => exact ⟨j + 1, by go_num, by omega, by rw [hT.out], hb2.trans (b5.mono hb2.size)⟩
                case measure => simp [intOf]; omega
              · obtain rfl : j = (L).length := by omega
                have hU := Used_is (hCk.below hb2)
                have hd1 : decide (li < tot (L)) = false := decide_eq_false (by omega)
                have hCe := hCk.below hb2
                have hbe := hbk.trans (hb2.mono hbk.size)
                rw [List.take_length]
                clear hCk hbk hb2 kat hks hle hlen
                generalize tot (L) = tL at *
                go_wp2_with (go_at_call 17; refine hU.mono ?_; rintro e w6 ⟨rfl, h6⟩; have h6 := h6.symm; subst h6)
                go_roundw
                case rel => exact ⟨i + 1, hi, mi, L, by go_num, by omega, hCe, hbe⟩
                case measure => simp [intOf]; omega
        · by_cases k1 : kd = 1
          · subst k1
            have hG := Get_is hC1 key (by unfold maxLen; omega)
            go_wp2_with (go_at_call 12; refine hG.mono ?_; rintro e w3 ⟨u3, rfl, o3, hC, ht3⟩; have hbt := hC1.keep hb1 ht3; have hbx3 := hbx.foot hC1.sh ht3; obtain ⟨z0, z1, z2⟩ := hbx3.cells; clear hG o3)
            clear hC0 hC1 hb0 hb1 hbx hrd hrd1 huF x0 x1 x2 ha hbx3
            generalize (if isIn key L = true then IntKind.i64.wrap (hi + 1) else hi) = hi3 at *
            generalize (if isIn key L = true then mi else IntKind.i64.wrap (mi + 1)) = mi3 at *
            generalize bump key L = L3 at *
            go_wp2_with (go_at_call 18; refine (Keys_is hC).mono ?_; rintro e wk ⟨ku, rfl, ko, kb⟩; obtain ⟨KA, kc, rfl, _⟩ := ko.rd.form)
            have hCk := hC.below kb
            have hbk := hbt.trans (kb.mono hbt.size)
            have kat := KS.at ko.rd
            have hks := hC.sh.ks
            have hle := hC.sh.le
            have hlen := hC.sh.len
            clear hC kb ko
            go_loopw [12, 14] (fun tv nv wr2 => ∃ j : Nat, nv = .int .i64 j ∧ j ≤ (L3).length ∧ tv = .int .i64 (tot ((L3).take j) : Nat) ∧ Below wk.heap.size wk wr2) (fun _ nv _ => (L3).length - (intOf nv).toNat)
            case atStart => exact ⟨0, rfl, Nat.zero_le _, rfl, Below.refl _ _⟩
            case round =>
              obtain ⟨j, rfl, hj, rfl, hb2⟩ := hrel
              by_cases hjl : j < (L3).length
              · obtain ⟨kblk, koff, hKA, hkl, hkc⟩ := kat (by rw [List.length_map]; omega)
                subst hKA
                have hkj := hkc j (by rw [List.length_map]; exact hjl)
                rw [List.getElem_map] at hkj
                have y0 := (hb2.cell (p := ⟨kblk, koff + j, none⟩) hkl).trans hkj
                have hP := Peek_is (hCk.below hb2) (L3)[j].key (by have := hCk.sh.small (List.getElem_mem hjl); unfold maxLen; omega)
                rw [isIn_mem (List.getElem_mem hjl), valC_mem hks (List.getElem_mem hjl)] at hP
                have hsm := hCk.sh.small (List.getElem_mem hjl)
                have htt := tot_take hjl
                have htl := tot_take_le (l := L3) j
                have htl2 := tot_take_le (l := L3) (j + 1)
                obtain ⟨ta, hta⟩ : ∃ ta, tot ((L3).take j) + (L3)[j].key.size = ta := ⟨_, rfl⟩
                have w1 := wrap_add hta (by omega)
                have w2 := wrap_add (a := ta) (b := (L3)[j].val.length) (c := tot ((L3).take (j + 1))) (by omega) (by omega)
                have hjI : (j : Int) < ((L3).length : Int) := by omega
                clear hkc hkj htt htl htl2 hsm hta
                generalize hTb : tot ((L3).take (j + 1)) = tb at *
                have hT := hid hTb
                clear hTb
                generalize tot ((L3).take j) = tj at *
                generalize (L3)[j].key = kj at *
                generalize (L3)[j].val = vj at *
                go_wp2_with (go_at_call 13; refine hP.mono ?_; rintro e w5 ⟨u5, rfl, o5, b5⟩; obtain ⟨A5, c5, rfl, _⟩ := id o5.rd; have y5 := (b5.cell (p := ⟨kblk, koff + j, none⟩) (Nat.lt_of_lt_of_le hkl hb2.size)).trans y0)
                go_roundw
                case rel => exact ⟨j + 1, by go_num, by omega, by rw [hT.out], hb2.trans (b5.mono hb2.size)⟩
                case measure => simp [intOf]; omega
              · obtain rfl : j = (L3).length := by omega
                have hU := Used_is (hCk.below hb2)
                have hd1 : decide (li < tot (L3)) = false := decide_eq_false (by omega)
                have hCe := hCk.below hb2
                have hbe := hbk.trans (hb2.mono hbk.size)
                rw [List.take_length]
                clear hCk hbk hb2 kat hks hle hlen
                generalize tot (L3) = tL at *
                go_wp2_with (go_at_call 17; refine hU.mono ?_; rintro e w6 ⟨rfl, h6⟩; have h6 := h6.symm; subst h6)
                go_roundw
                case rel => exact ⟨i + 1, hi3, mi3, L3, by go_num, by omega, hCe, hbe⟩
                case measure => simp [intOf]; omega
          · by_cases k3 : kd = 3
            · subst k3
              have hD := Drop_is hC1 key (by unfold maxLen; omega)
              go_wp2_with (go_at_call 16; refine hD.mono ?_; rintro e w3 ⟨rfl, hC, ht3⟩; have hbt := hC1.keep hb1 ht3; clear hD)
              clear hC0 hC1 hb0 hb1 hbx hrd hrd1 huF x0 x1 x2 ha
              generalize del key L = L3 at *
              go_wp2_with (go_at_call 18; refine (Keys_is hC).mono ?_; rintro e wk ⟨ku, rfl, ko, kb⟩; obtain ⟨KA, kc, rfl, _⟩ := ko.rd.form)
              have hCk := hC.below kb
              have hbk := hbt.trans (kb.mono hbt.size)
              have kat := KS.at ko.rd
              have hks := hC.sh.ks
              have hle := hC.sh.le
              have hlen := hC.sh.len
              clear hC kb ko
              go_loopw [12, 14] (fun tv nv wr2 => ∃ j : Nat, nv = .int .i64 j ∧ j ≤ (L3).length ∧ tv = .int .i64 (tot ((L3).take j) : Nat) ∧ Below wk.heap.size wk wr2) (fun _ nv _ => (L3).length - (intOf nv).toNat)
              case atStart => exact ⟨0, rfl, Nat.zero_le _, rfl, Below.refl _ _⟩
              case round =>
                obtain ⟨j, rfl, hj, rfl, hb2⟩ := hrel
                by_cases hjl : j < (L3).length
                · obtain ⟨kblk, koff, hKA, hkl, hkc⟩ := kat (by rw [List.length_map]; omega)
                  subst hKA
                  have hkj := hkc j (by rw [List.length_map]; exact hjl)
                  rw [List.getElem_map] at hkj
                  have y0 := (hb2.cell (p := ⟨kblk, koff + j, none⟩) hkl).trans hkj
                  have hP := Peek_is (hCk.below hb2) (L3)[j].key (by have := hCk.sh.small (List.getElem_mem hjl); unfold maxLen; omega)
                  rw [isIn_mem (List.getElem_mem hjl), valC_mem hks (List.getElem_mem hjl)] at hP
                  have hsm := hCk.sh.small (List.getElem_mem hjl)
                  have htt := tot_take hjl
                  have htl := tot_take_le (l := L3) j
                  have htl2 := tot_take_le (l := L3) (j + 1)
                  obtain ⟨ta, hta⟩ : ∃ ta, tot ((L3).take j) + (L3)[j].key.size = ta := ⟨_, rfl⟩
                  have w1 := wrap_add hta (by omega)
                  have w2 := wrap_add (a := ta) (b := (L3)[j].val.length) (c := tot ((L3).take (j + 1))) (by omega) (by omega)
                  have hjI : (j : Int) < ((L3).length : Int) := by omega
                  clear hkc hkj htt htl htl2 hsm hta
                  generalize hTb : tot ((L3).take (j + 1)) = tb at *
                  have hT := hid hTb
                  clear hTb
                  generalize tot ((L3).take j) = tj at *
                  generalize (L3)[j].key = kj at *
                  generalize (L3)[j].val = vj at *
                  go_wp2_with (go_at_call 13; refine hP.mono ?_; rintro e w5 ⟨u5, rfl, o5, b5⟩; obtain ⟨A5, c5, rfl, _⟩ := id o5.rd; have y5 := (b5.cell (p := ⟨kblk, koff + j, none⟩) (Nat.lt_of_lt_of_le hkl hb2.size)).trans y0)
                  go_roundw
                  case rel => exact ⟨j + 1, by go_num, by omega, by rw [hT.out], hb2.trans (b5.mono hb2.size)⟩
                  case measure => simp [intOf]; omega
                · obtain rfl : j = (L3).length := by omega
                  have hU := Used_is (hCk.below hb2)
                  have hd1 : decide (li < tot (L3)) = false := decide_eq_false (by omega)
                  have hCe := hCk.below hb2
                  have hbe := hbk.trans (hb2.mono hbk.size)
                  rw [List.take_length]
                  clear hCk hbk hb2 kat hks hle hlen
                  generalize tot (L3) = tL at *
                  go_wp2_with (go_at_call 17; refine hU.mono ?_; rintro e w6 ⟨rfl, h6⟩; have h6 := h6.symm; subst h6)
                  go_roundw
                  case rel => exact ⟨i + 1, hi, mi, L3, by go_num, by omega, hCe, hbe⟩
                  case measure => simp [intOf]; omega
            · have e0 : (kd == 0) = false := by simpa using k0
              have e1 : (kd == 1) = false := by simpa using k1
              have e3 : (kd == 3) = false := by simpa using k3
              have hC := hC1
              have hbt := hb1
              obtain ⟨z0, z1, z2⟩ := hbx.cells
              clear hC0 hC1 hb0 hbx hrd hrd1 huF ha
              go_wp2_with (go_at_call 18; refine (Keys_is hC).mono ?_; rintro e wk ⟨ku, rfl, ko, kb⟩; obtain ⟨KA, kc, rfl, _⟩ := ko.rd.form)
              have hCk := hC.below kb
              have hbk := hbt.trans (kb.mono hbt.size)
              have kat := KS.at ko.rd
              have hks := hC.sh.ks
              have hle := hC.sh.le
              have hlen := hC.sh.len
              clear hC kb ko
              go_loopw [12, 14] (fun tv nv wr2 => ∃ j : Nat, nv = .int .i64 j ∧ j ≤ (L).length ∧ tv = .int .i64 (tot ((L).take j) : Nat) ∧ Below wk.heap.size wk wr2) (fun _ nv _ => (L).length - (intOf nv).toNat)
              case atStart => exact ⟨0, rfl, Nat.zero_le _, rfl, Below.refl _ _⟩
              case round =>
                obtain ⟨j, rfl, hj, rfl, hb2⟩ := hrel
                by_cases hjl : j < (L).length
                · obtain ⟨kblk, koff, hKA, hkl, hkc⟩ := kat (by rw [List.length_map]; omega)
                  subst hKA
                  have hkj := hkc j (by rw [List.length_map]; exact hjl)
                  rw [List.getElem_map] at hkj
                  have y0 := (hb2.cell (p := ⟨kblk, koff + j, none⟩) hkl).trans hkj
                  have hP := Peek_is (hCk.below hb2) (L)[j].key (by have := hCk.sh.small (List.getElem_mem hjl); unfold maxLen; omega)
                  rw [isIn_mem (List.getElem_mem hjl), valC_mem hks (List.getElem_mem hjl)] at hP
                  have hsm := hCk.sh.small (List.getElem_mem hjl)
                  have htt := tot_take hjl
                  have htl := tot_take_le (l := L) j
                  have htl2 := tot_take_le (l := L) (j + 1)
                  obtain ⟨ta, hta⟩ : ∃ ta, tot ((L).take j) + (L)[j].key.size = ta := ⟨_, rfl⟩
                  have w1 := wrap_add hta (by omega)
                  have w2 := wrap_add (a := ta) (b := (L)[j].val.length) (c := tot ((L).take (j + 1))) (by omega) (by omega)
                  have hjI : (j : Int) < ((L).length : Int) := by omega
                  clear hkc hkj htt htl htl2 hsm hta
                  generalize hTb : tot ((L).take (j + 1)) = tb at *
                  have hT := hid hTb
                  clear hTb
                  generalize tot ((L).take j) = tj at *
                  generalize (L)[j].key = kj at *
                  generalize (L)[j].val = vj at *
                  go_wp2_with (go_at_call 13; refine hP.mono ?_; rintro e w5 ⟨u5, rfl, o5, b5⟩; obtain ⟨A5, c5, rfl, _⟩ := id o5.rd; have y5 := (b5.cell (p := ⟨kblk, koff + j, none⟩) (Nat.lt_of_lt_of_le hkl hb2.size)).trans y0)
                  go_roundw
                  case rel => exact ⟨j + 1, by go_num, by omega, by rw [hT.out], hb2.trans (b5.mono hb2.size)⟩
                  case measure => simp [intOf]; omega
                · obtain rfl : j = (L).length := by omega
                  have hU := Used_is (hCk.below hb2)
                  have hd1 : decide (li < tot (L)) = false := decide_eq_false (by omega)
                  have hCe := hCk.below hb2
                  have hbe := hbk.trans (hb2.mono hbk.size)
                  rw [List.take_length]
                  clear hCk hbk hb2 kat hks hle hlen
                  generalize tot (L) = tL at *
                  go_wp2_with (go_at_call 17; refine hU.mono ?_; rintro e w6 ⟨rfl, h6⟩; have h6 := h6.symm; subst h6)
                  go_roundw
                  case rel => exact ⟨i + 1, hi, mi, L, by go_num, by omega, hCe, hbe⟩
                  case measure => simp [intOf]; omega
      · have hi3I : decide ((i : Int) < 300) = false := decide_eq_false (by omega)
        go_wp2
        go_ret
        exact ⟨rfl, hb0⟩
    · obtain rfl : i = ops.length := by omega
      go_wp2
      go_ret
      exact ⟨rfl, hb0⟩
end Go.Proofs.Ytflhgoecmcfkkaa
