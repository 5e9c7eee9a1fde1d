/-
  The law CacheStays, walked. Conditions: the calls' sizes.
-/
import Derived.Test.YtflhgoecmcfkkaaCstM
namespace Go.Proofs.Ytflhgoecmcfkkaa
open Go.RowKit Go.Icz Go.Maps
theorem MS.touch {S : Nat → Prop} {w w' : World} {b n : Nat} {f : ByteArray → ByteArray} (h : MS w b n f) (k : Tch S w w') (hS : ¬ S b) : MS w' b n f := by
  obtain ⟨D, h1, h2⟩ := h
  exact ⟨D, ownsMap_touch h1 k hS, h2⟩
theorem MI.touch {S : Nat → Prop} {w w' : World} {b n : Nat} {f : ByteArray → Nat} (h : MI w b n f) (k : Tch S w w') (hS : ¬ S b) : MI w' b n f := by
  obtain ⟨D, h1, h2⟩ := h
  exact ⟨D, ownsMap_touch h1 k hS, h2⟩
theorem MS.up {w : World} {b n n' : Nat} {f : ByteArray → ByteArray} (h : MS w b n f) (hn : n ≤ n') : MS w b n' f := by
  obtain ⟨D, ⟨es, c, h1, h3, h4, h5⟩, h2⟩ := h
  exact ⟨D, ⟨es, c, h1, h3, Nat.le_trans h4 hn, h5⟩, h2⟩
theorem MI.up {w : World} {b n n' : Nat} {f : ByteArray → Nat} (h : MI w b n f) (hn : n ≤ n') : MI w b n' f := by
  obtain ⟨D, ⟨es, c, h1, h3, h4, h5⟩, h2⟩ := h
  exact ⟨D, ⟨es, c, h1, h3, Nat.le_trans h4 hn, h5⟩, h2⟩
theorem MS.blk {w : World} {b n : Nat} {f : ByteArray → ByteArray} (h : MS w b n f) : ∃ es c, w.heap[b]? = some (.map es c) := by
  obtain ⟨D, ⟨es, c, h1, _⟩, _⟩ := h
  exact ⟨es, c, h1⟩
theorem MI.blk {w : World} {b n : Nat} {f : ByteArray → Nat} (h : MI w b n f) : ∃ es c, w.heap[b]? = some (.map es c) := by
  obtain ⟨D, ⟨es, c, h1, _⟩, _⟩ := h
  exact ⟨es, c, h1⟩
theorem Ca.mapFar {w : World} {B q s m li : Nat} {hi mi : Int} {l : List It} (h : Ca w B q s m li hi mi l) {b : Nat} {es : Array MapEntry} {c : Nat} (hb : w.heap[b]? = some (.map es c)) (hm : b ≠ m) : ¬ (b = q ∨ Foot s m l b) := by
  rintro (rfl | rfl | rfl | hj)
  · have := h.at_
    rw [hb] at this
    cases this
  · have := h.sh.at_
    unfold ShAt at this
    rw [hb] at this
    cases this
  · exact hm rfl
  · obtain ⟨e, he, rfl⟩ := List.mem_map.1 hj
    obtain ⟨x, y, hn⟩ := h.sh.ch.node he
    unfold Nd at hn
    rw [hb] at hn
    cases hn
theorem nb_map {w : World} {b : Nat} {es : Array MapEntry} {c : Nat} (hb : w.heap[b]? = some (.map es c)) : NB (· = b) w := by
  rintro j rfl cur z h
  rw [hb] at h
  cases h
theorem row_ne_map {w : World} {b g : Nat} {es : Array MapEntry} {c : Nat} (hb : w.heap[b]? = some (.map es c)) {cs : Array Value} {t : TypeId} {z : Nat × Nat} (hg : w.heap[g]? = some (.cells cs t z)) : g ≠ b := by
  rintro rfl
  rw [hb] at hg
  cases hg
/-- A cache, and the law's two maps. -/
structure Sy (w : World) (B q s m li : Nat) (hi mi : Int) (L : List It) (b1 b2 n : Nat) (last : ByteArray → ByteArray) (used : ByteArray → Nat) : Prop where
  ca : Ca w B q s m li hi mi L
  m1 : MS w b1 n last
  m2 : MI w b2 n used
  ne : b1 ≠ m ∧ b2 ≠ m ∧ b1 ≠ b2
  lo : B ≤ b1 ∧ B ≤ b2
section
variable {w w' : World} {B q s m li : Nat} {hi mi : Int} {L : List It} {b1 b2 n : Nat} {last : ByteArray → ByteArray} {used : ByteArray → Nat}
theorem Sy.below (h : Sy w B q s m li hi mi L b1 b2 n last used) (k : Below w.heap.size w w') : Sy w' B q s m li hi mi L b1 b2 n last used :=
  ⟨h.ca.below k, h.m1.touch (Tch.of_below k (S := fun _ => False)) (fun h => h), h.m2.touch (Tch.of_below k (S := fun _ => False)) (fun h => h), h.ne, h.lo⟩
theorem Sy.foot (h : Sy w B q s m li hi mi L b1 b2 n last used) {hi' mi' : Int} {L' : List It} (k : Tch (Foot s m L) w w') (hc : Ca w' B q s m li hi' mi' L') : Sy w' B q s m li hi' mi' L' b1 b2 n last used := by
  obtain ⟨e1, c1, h1⟩ := h.m1.blk
  obtain ⟨e2, c2, h2⟩ := h.m2.blk
  exact ⟨hc, h.m1.touch k (fun hf => h.ca.mapFar h1 h.ne.1 (.inr hf)), h.m2.touch k (fun hf => h.ca.mapFar h2 h.ne.2.1 (.inr hf)), h.ne, h.lo⟩
theorem Sy.st1 (h : Sy w B q s m li hi mi L b1 b2 n last used) (k : ByteArray) (hk : k.size ≤ maxLen) (x : ByteArray) (hx : x.size ≤ maxLen) (hn : n < maxLen) :
    ∃ w', (Instr.mapUpdate 50 (.map (some b1)) (.string k) (.string x)).run Try.prog w = .ok () w' ∧ Sy w' B q s m li hi mi L b1 b2 (n + 1) (upd last k x) used ∧ Tch (· = b1) w w' := by
  obtain ⟨w', hr, hm, ht⟩ := h.m1.store k hk x hx hn
  obtain ⟨e1, c1, h1⟩ := h.m1.blk
  exact ⟨w', hr, ⟨h.ca.touch ht (fun j hj hf => h.ca.mapFar h1 h.ne.1 (by rw [hj] at hf; exact hf)) (nb_map h1), hm, (h.m2.touch ht (fun e => h.ne.2.2 e.symm)).up (Nat.le_succ _), h.ne, h.lo⟩, ht⟩
theorem Sy.st2 (h : Sy w B q s m li hi mi L b1 b2 n last used) (k : ByteArray) (hk : k.size ≤ maxLen) (x : Nat) (hx : x ≤ 1048576) (hn : n < maxLen) :
    ∃ w', (Instr.mapUpdate 51 (.map (some b2)) (.string k) (.int .i64 x)).run Try.prog w = .ok () w' ∧ Sy w' B q s m li hi mi L b1 b2 (n + 1) last (upd used k x) ∧ Tch (· = b2) w w' := by
  obtain ⟨w', hr, hm, ht⟩ := h.m2.store k hk x hx hn
  obtain ⟨e1, c1, h1⟩ := h.m2.blk
  exact ⟨w', hr, ⟨h.ca.touch ht (fun j hj hf => h.ca.mapFar h1 h.ne.2.1 (by rw [hj] at hf; exact hf)) (nb_map h1), (h.m1.touch ht (fun e => h.ne.2.2 e)).up (Nat.le_succ _), hm, h.ne, h.lo⟩, ht⟩
theorem Sy.bx1 (h : Sy w B q s m li hi mi L b1 b2 n last used) {g : Nat} {x : OpE} (hb : Bx w g x) (ht : Tch (· = b1) w w') : Bx w' g x := by
  obtain ⟨e1, c1, h1⟩ := h.m1.blk
  exact ht.row hb (row_ne_map h1 hb)
theorem Sy.bx2 (h : Sy w B q s m li hi mi L b1 b2 n last used) {g : Nat} {x : OpE} (hb : Bx w g x) (ht : Tch (· = b2) w w') : Bx w' g x := by
  obtain ⟨e1, c1, h1⟩ := h.m2.blk
  exact ht.row hb (row_ne_map h1 hb)
theorem Sy.keep1 (h : Sy w B q s m li hi mi L b1 b2 n last used) {w0 : World} (hb : Below B w0 w) (ht : Tch (· = b1) w w') : Below B w0 w' :=
  Tch.below hb ht (fun j hj => by rw [hj]; exact h.lo.1) (Nat.le_of_lt (Nat.lt_of_le_of_lt h.ca.lo (row_lt h.ca.at_)))
theorem Sy.keep2 (h : Sy w B q s m li hi mi L b1 b2 n last used) {w0 : World} (hb : Below B w0 w) (ht : Tch (· = b2) w w') : Below B w0 w' :=
  Tch.below hb ht (fun j hj => by rw [hj]; exact h.lo.2) (Nat.le_of_lt (Nat.lt_of_le_of_lt h.ca.lo (row_lt h.ca.at_)))
end
theorem below_drewN (w : World) (k : Nat) : Below w.heap.size w (w.drewN k) := ⟨rfl, rfl, rfl, Nat.le_refl _, fun _ _ => rfl⟩
theorem str_size (l : List Nat) : (str l).size = l.length := by
  show (Array.size _) = _
  simp [str]

set_option maxRecDepth 100000 in
set_option maxHeartbeats 64000000 in
theorem stays_walk (lim : Int) (v : Value) (ops : List OpE) (W : World) (hR : RdO W v ops) (hlim : (Lit.int .i64 lim).wf = true) :
    Calls Try.prog 6 #[.int .i64 lim, v] W fun e w' => e = .returned (.bool true) ∧ Below W.heap.size W w' := by
  obtain ⟨A, c, rfl, hn, hops⟩ := hR
  obtain ⟨li, r2, r3, q1, q2, q3, hl1, hl2⟩ : ∃ (li : Nat) (r2 r3 : Int), IntKind.i64.wrap (lim.tmod 200 + 200) = r2 ∧ r2.tmod 200 = r3 ∧ IntKind.i64.wrap (1 + r3) = (li : Int) ∧ 1 ≤ li ∧ li ≤ 200 := by
    have h1 := Int.tmod_lt_of_pos lim (show (0 : Int) < 200 by omega)
    have h2 := Int.lt_tmod_of_pos lim (show (0 : Int) < 200 by omega)
    have h3 := Int.tmod_lt_of_pos (lim.tmod 200 + 200) (show (0 : Int) < 200 by omega)
    have h4 := Int.tmod_nonneg 200 (show 0 ≤ lim.tmod 200 + 200 by omega)
    refine ⟨(1 + (lim.tmod 200 + 200).tmod 200).toNat, lim.tmod 200 + 200, (lim.tmod 200 + 200).tmod 200, ?_, rfl, ?_, by omega, by omega⟩
    · rw [IntKind.wrap_i64]; omega
    · rw [IntKind.wrap_i64]; omega
  have hN := New_yes li W hl1 (by omega)
  generalize hq : W.heap.size + 1 + 1 = q at *
  generalize hs : W.heap.size + 1 = s at *
  generalize hr1 : lim.tmod 200 = r1 at *
  have hMM := @run_makeMap Try.prog
  go_enter Try.func6, Try.ntmps6
  go_wp2_with (first
    | (go_at_call 7; refine hN.mono ?_; rintro e w1 ⟨rfl, h1, b1⟩)
    | (go_at_call 9; refine (num_is _ _).mono ?_; rintro e w0 ⟨rfl, hw0⟩; have hw0 := hw0.symm; subst hw0)
    | (go_at_call 10; refine (knows_is _).mono ?_; rintro e w2 ⟨rfl, b2⟩))
  have hsz := h1.below b2
  have hbig : W.heap.size < w2.heap.size := (hsz.sh.lt _ (.inr (.inl rfl))).2
  have ha1 := (Below.refl w2.heap.size w2).alloc (Nat.le_refl _) (.map #[] 0)
  have ha2 := ha1.alloc (by simp) (.map #[] 0)
  have hsy : Sy ((w2.alloc (.map #[] 0)).alloc (.map #[] 0)) W.heap.size q s W.heap.size li 0 0 [] w2.heap.size (w2.heap.size + 1) 0 (fun _ => ⟨#[]⟩) (fun _ => 0) := by
    have o1 : (w2.alloc (.map #[] 0)).ownsMap (H := Unit) Try.prog 9 (plainElem Try.prog 9) w2.heap.size 0 (.map []) := World.ownsMap_made ..
    have o2 : ((w2.alloc (.map #[] 0)).alloc (.map #[] 0)).ownsMap (H := Unit) Try.prog 9 (plainElem Try.prog 3) (w2.alloc (.map #[] 0)).heap.size 0 (.map []) := World.ownsMap_made ..
    have es : (w2.alloc (.map #[] 0)).heap.size = w2.heap.size + 1 := by simp
    rw [es] at o2
    exact ⟨hsz.below ha2, ⟨_, o1.alloc _, fun _ => rfl⟩, ⟨_, o2, fun _ => rfl⟩, ⟨by omega, by omega, by omega⟩, ⟨by omega, by omega⟩⟩
  have hb20 := (b1.trans (b2.mono b1.size)).trans (ha2.mono (Nat.le_of_lt hbig))
  generalize w2.heap.size + 1 = m2 at *
  generalize w2.heap.size = m1 at *
  clear h1 b1 b2 hN q1 q2 q3 hr1 hsz hbig ha1 ha2
  go_loopw [9] (fun iv wr => ∃ (i : Nat) (hi mi : Int) (L : List It) (n : Nat) (last : ByteArray → ByteArray) (used : ByteArray → Nat), iv = .int .i64 i ∧ i ≤ ops.length ∧ n ≤ 2 * i ∧ Sy wr W.heap.size q s W.heap.size li hi mi L m1 m2 n last used ∧ Inv L last used i ∧ Below W.heap.size W wr) (fun iv _ => ops.length - (intOf iv).toNat)
  case atStart => exact ⟨0, 0, 0, [], 0, _, _, rfl, Nat.zero_le _, Nat.zero_le _, hsy, Inv.start, hb20⟩
  case round =>
    obtain ⟨i, hi, mi, L, n, last, used, rfl, hin, hni, hS0, hI, hb0⟩ := hrel
    clear hsy hb20
    generalize wr = wo at *
    have hS0c := hS0.ca
    by_cases hio : i < ops.length
    · by_cases hi3 : i < 300
      · obtain ⟨b, off, hA, hbl, hcell⟩ := hops (by omega)
        subst hA
        obtain ⟨x0, x1, x2, hrd, hk1, hv1, _⟩ := hcell i hio
        have hioI : (i : Int) < (ops.length : Int) := by omega
        have hi3I : (i : Int) < 300 := by omega
        generalize ops[i] = x at *
        obtain ⟨kd, key, xA, xc, bs⟩ := x
        dsimp only [OpE.v] at x0 x1 x2 hrd hk1 hv1
        have x0 := (hb0.cell (p := ⟨b, off + i * 3, none⟩) hbl).trans x0
        have x1 := (hb0.cell (p := ⟨b, off + (i * 3 + 1), none⟩) hbl).trans x1
        have x2 := (hb0.cell (p := ⟨b, off + (i * 3 + 2), none⟩) hbl).trans x2
        rw [← Nat.add_assoc] at x1 x2
        have ha := (Below.refl wo.heap.size wo).alloc (Nat.le_refl _) (.cells #[.int .i64 kd, .string key, .slice xA bs.length xc] 34)
        have hS1 := hS0.below ha
        have hb1 := hb0.trans (ha.mono hb0.size)
        have hbx : Bx (wo.alloc (.cells #[.int .i64 kd, .string key, .slice xA bs.length xc] 34)) wo.heap.size ⟨kd, key, xA, xc, bs⟩ := heap_alloc_new wo _
        have hrd1 := hrd.below hb1
        have hkm : key.size ≤ maxLen := by unfold maxLen; omega
        have huF : 0 < bs.length → ∀ b', (Value.slice xA bs.length xc).ownBlock = some b' → ¬ Foot s W.heap.size L b' := fun h0 b' hb' hf => by
          have h1 := Rd.lt hrd h0 b' hb'
          have h2 := (hS0.ca.sh.lt b' hf).1
          omega
        have hi1 : ((i + 1 : Nat) : Int) = (i : Int) + 1 := rfl
        by_cases k0 : kd = 0
        · subst k0
          by_cases hfit : key.size + bs.length ≤ li
          · have hP := Put_ok hS1.ca key _ bs hrd1 huF hfit
            go_wp2_with (first
              | (go_at_call 15; refine hP.mono ?_; rintro e w3 ⟨rfl, g, sv, hg, hC3, ht3⟩; have hS3 := hS1.foot ht3 hC3; have hb3 := hS1.ca.keep hb1 ht3; have hbx3 := hbx.foot hS1.ca.sh ht3; obtain ⟨z0, z1, z2⟩ := hbx3.cells; have cv := conv_rd std (hrd.below hb3); obtain ⟨w4, st4, hS4, ht4⟩ := hS3.st1 key hkm (str bs) (by rw [str_size]; unfold maxLen; omega) (by unfold maxLen; omega); have hb4 := hS3.keep1 hb3 ht4; have hbx4 := hS3.bx1 hbx3 ht4; obtain ⟨z0', z1', z2'⟩ := hbx4.cells; obtain ⟨w5, st5, hS, ht5⟩ := hS4.st2 key hkm (i + 1) (by omega) (by unfold maxLen; omega); rw [hi1] at st5; have hbt := hS4.keep2 hb4 ht5; have hbx5 := hS4.bx2 hbx4 ht5; obtain ⟨y0', y1', y2'⟩ := hbx5.cells; clear hP)
              | (go_at_call 9; refine (num_is _ _).mono ?_; rintro e w0 ⟨rfl, hw0⟩; have hw0 := hw0.symm; subst hw0))
            have hI2 : Inv (putL li key bs g sv L) (upd last key (str bs)) (upd used key (i + 1)) (i + 1) := by
              obtain ⟨xs, hxs⟩ := room_suffix li (key.size + bs.length) (del key L)
              exact hI.last key ⟨key, bs, g, sv⟩ rfl hxs (upd_same _ _ _) fun j hj => upd_other _ _ hj
            clear hS0 hS0c hS1 hb0 hb1 hbx hrd1 huF x0 x1 x2 ha hbx3 hbx4 hbx5 z0 z1 z2 z0' z1' z2' y0' y1' y2' st4 st5 hS3 hS4 hb3 hb4 cv hC3
            generalize putL li key bs g sv L = L3 at *
            generalize upd last key (str bs) = last3 at *
            generalize upd used key (i + 1) = used3 at *
            as_aux_lemma =>
              have hCs := hS.ca
              have hTailM : ((L3).map (·.key)).Nodup := hCs.sh.ks
              have hlen := hCs.sh.len
              go_wp2_with (go_at_call 18; refine (Keys_is hCs).mono ?_; rintro e wk ⟨ku, rfl, ko, kb⟩; obtain ⟨KA, kc, rfl, _⟩ := ko.rd.form)
              have hSk := hS.below kb
              have hbk := hbt.trans (kb.mono hbt.size)
              have kat := KS.at ko.rd
              clear hS hCs kb ko
              go_loopw [14, 15] (fun tv nv wr2 => ∃ j : Nat, nv = .int .i64 j ∧ j ≤ (L3).length ∧ tv = .int .i64 (ol used3 (L3) j : Nat) ∧ Below wk.heap.size wk wr2) (fun _ nv _ => (L3).length - (intOf nv).toNat)
              case atStart => exact ⟨0, rfl, Nat.zero_le _, rfl, Below.refl _ _⟩
              case round =>
                obtain ⟨j, rfl, hj, rfl, hb2⟩ := hrel
                by_cases hjl : j < (L3).length
                · obtain ⟨kblk, koff, hKA, hkl, hkc⟩ := kat (by rw [List.length_map]; omega)
                  subst hKA
                  have hkj := hkc j (by rw [List.length_map]; exact hjl)
                  rw [List.getElem_map] at hkj
                  have y0 := (hb2.cell (p := ⟨kblk, koff + j, none⟩) hkl).trans hkj
                  have hsm := hSk.ca.sh.small (List.getElem_mem hjl)
                  have hkm : (L3)[j].key.size ≤ maxLen := by unfold maxLen; omega
                  have hP := Peek_is (hSk.ca.below hb2) (L3)[j].key hkm
                  rw [isIn_mem (List.getElem_mem hjl), valC_mem hTailM (List.getElem_mem hjl)] at hP
                  have hlk : ∀ w5, Below wr.heap.size wr w5 → ∀ nq, (Instr.lookup 50 (.map (some m1)) (.string (L3)[j].key) false).run Try.prog (w5.drewN nq) = .ok (.string (str (L3)[j].val)) (w5.drewN nq) ∧ (Instr.lookup 51 (.map (some m2)) (.string (L3)[j].key) false).run Try.prog (w5.drewN nq) = .ok (.int .i64 (used3 (L3)[j].key : Nat)) (w5.drewN nq) := fun w5 b5 nq => by
                    have s5 := ((hSk.below hb2).below b5).below (below_drewN w5 nq)
                    have e1 := s5.m1.look (L3)[j].key hkm
                    rw [hI2.va _ (List.getElem_mem hjl)] at e1
                    exact ⟨e1, s5.m2.look (L3)[j].key hkm⟩
                  have hcv : ∀ w5 u5, Own w5 wr.heap.size u5 (L3)[j].val → ∀ nq, (convert 32 9 u5).run Try.prog (w5.drewN nq) = .ok (.string (str (L3)[j].val)) (w5.drewN nq) := fun w5 u5 o5 nq => conv_rd std (show Rd (w5.drewN nq) u5 (L3)[j].val from o5.rd)
                  have hol := ol_lt hI2 hjl
                  have hos := hid (ol_succ (used := used3) hjl)
                  have hud := hI2.bd (L3)[j].key
                  have hjA : Hid (j < (L3).length) := hid hjl
                  have hjI : (j : Int) < ((L3).length : Int) := by omega
                  clear hkc hkj hsm hkm
                  generalize ol used3 (L3) j = oj at *
                  generalize used3 (L3)[j].key = uj at *
                  generalize (L3)[j].key = kj at *
                  generalize (L3)[j].val = vj at *
                  have hdl : decide (uj ≤ oj) = false := decide_eq_false (by omega)
                  have hrefl : (str vj).toList == (str vj).toList := by simp
                  go_wp2_with (go_at_call 13; refine hP.mono ?_; rintro e w5 ⟨u5, rfl, o5, b5⟩; have cv := hcv w5 u5 o5; obtain ⟨A5, c5, rfl, _⟩ := id o5.rd; have y5 := (b5.cell (p := ⟨kblk, koff + j, none⟩) (Nat.lt_of_lt_of_le hkl hb2.size)).trans y0; have lk1 := fun nq => (hlk w5 b5 nq).1; have lk2 := fun nq => (hlk w5 b5 nq).2; clear hlk hcv o5)
                  by_cases hj0 : j = 0
                  · have hjd : ((j : Int) == 0) = true := by simp [hj0]
                    clear hj0
                    go_quiet (fail)
                    go_wp2
                    go_roundw
                    case rel => exact ⟨j + 1, by go_num, by have := hjA.out; omega, by rw [hos.out], hb2.trans ((b5.mono hb2.size).trans (Below.mono (below_drewN _ _) (Nat.le_trans hb2.size b5.size)))⟩
                    case measure => have := hjA.out; simp [intOf]; omega
                  · have hjd : ((j : Int) == 0) = false := by simpa using hj0
                    clear hj0
                    go_quiet (fail)
                    go_wp2
                    go_roundw
                    case rel => exact ⟨j + 1, by go_num, by have := hjA.out; omega, by rw [hos.out], hb2.trans ((b5.mono hb2.size).trans (Below.mono (below_drewN _ _) (Nat.le_trans hb2.size b5.size)))⟩
                    case measure => have := hjA.out; simp [intOf]; omega
                · obtain rfl : j = (L3).length := by omega
                  have hS2 := hSk.below hb2
                  have hbe := hbk.trans (hb2.mono hbk.size)
                  have hkhead : 0 < (L3).length → ∃ kblk koff e0, KA = some ⟨kblk, koff, none⟩ ∧ e0 ∈ (L3) ∧ kblk < wr.heap.size ∧ wr.cell? ⟨kblk, koff, none⟩ = some (.string e0.key) := fun h0 => by
                    obtain ⟨kblk, koff, hKA, hkl, hkc⟩ := kat (by rw [List.length_map]; omega)
                    have h1 := hkc 0 (by rw [List.length_map]; omega)
                    rw [List.getElem_map, Nat.add_zero] at h1
                    exact ⟨kblk, koff, (L3)[0], hKA, List.getElem_mem h0, Nat.lt_of_lt_of_le hkl hb2.size, (hb2.cell (p := ⟨kblk, koff, none⟩) hkl).trans h1⟩
                  clear hSk hbk hb2 kat
                  go_wp2
                  generalize wr = wz at *
                  go_loopw [18] (fun nv wr3 => ∃ n' : Nat, nv = .int .i64 n' ∧ n' ≤ i + 1 ∧ Below wz.heap.size wz wr3) (fun nv _ => i + 1 - (intOf nv).toNat)
                  case atStart => exact ⟨0, rfl, by omega, Below.refl _ _⟩
                  case round =>
                    obtain ⟨n', rfl, hn', hb3⟩ := hrel
                    by_cases hgo : n' ≤ i ∧ 0 < (L3).length
                    · obtain ⟨hg1, hg2⟩ := hgo
                      obtain ⟨kblk, koff, e0, hKA, he0, hkl, hk0⟩ := hkhead hg2
                      subst hKA
                      obtain ⟨_, p1, _, _, hpk, _⟩ := hcell n' (by omega)
                      have p1 := ((hbe.trans (hb3.mono hbe.size)).cell (p := ⟨b, off + (n' * 3 + 1), none⟩) hbl).trans p1
                      rw [← Nat.add_assoc] at p1
                      have hpb : b < wr.heap.size := Nat.lt_of_lt_of_le hbl (hbe.trans (hb3.mono hbe.size)).size
                      have hk3 := (hb3.cell (p := ⟨kblk, koff, none⟩) hkl).trans hk0
                      have hpm : ops[n'].key.size ≤ maxLen := by unfold maxLen; omega
                      have hP := Peek_is (hS2.ca.below hb3) ops[n'].key hpm
                      have hgA : Hid (n' ≤ i) := hid hg1
                      have hg1I : (n' : Int) ≤ (i : Int) := by omega
                      have hg2I : (0 : Int) < ((L3).length : Int) := by omega
                      have hnI : (n' : Int) < (ops.length : Int) := by omega
                      have hsm := hS2.ca.sh.small he0
                      have hlk : ∀ w5, Below wr.heap.size wr w5 → ∀ nq, (Instr.lookup 51 (.map (some m2)) (.string ops[n'].key) false).run Try.prog (w5.drewN nq) = .ok (.int .i64 (used3 ops[n'].key : Nat)) (w5.drewN nq) ∧ (Instr.lookup 51 (.map (some m2)) (.string e0.key) false).run Try.prog (w5.drewN nq) = .ok (.int .i64 (used3 e0.key : Nat)) (w5.drewN nq) := fun w5 b5 nq => by
                        have s5 := ((hS2.below hb3).below b5).below (below_drewN w5 nq)
                        exact ⟨s5.m2.look _ hpm, s5.m2.look _ (by unfold maxLen; omega)⟩
                      have hout : isIn ops[n'].key (L3) = false → decide (used3 e0.key < used3 ops[n'].key) = false := fun h0 => decide_eq_false (by have := hI2.out _ h0 e0 he0; omega)
                      clear hpm hsm hk0
                      generalize ops[n'].key = kp at *
                      generalize used3 kp = up at *
                      generalize used3 e0.key = ue at *
                      generalize e0.key = ke at *
                      cases hin' : isIn kp (L3) with
                      | true =>
                        rw [hin'] at hP
                        clear hin' hout
                        go_wp2_with (go_at_call 13; refine hP.mono ?_; rintro e w5 ⟨u5, rfl, o5, b5⟩; clear hlk o5)
                        go_quiet (fail)
                        go_wp2
                        go_roundw
                        case rel => exact ⟨n' + 1, by go_num, by have := hgA.out; omega, hb3.trans ((b5.mono hb3.size).trans (Below.mono (below_drewN _ _) (Nat.le_trans hb3.size b5.size)))⟩
                        case measure => have := hgA.out; simp [intOf]; omega
                      | false =>
                        rw [hin'] at hP
                        have hdl := hout hin'
                        clear hin' hout
                        go_wp2_with (go_at_call 13; refine hP.mono ?_; rintro e w5 ⟨u5, rfl, o5, b5⟩; have lk1 := fun nq => (hlk w5 b5 nq).1; have lk2 := fun nq => (hlk w5 b5 nq).2; have p5 := (b5.cell (p := ⟨b, off + n' * 3 + 1, none⟩) hpb).trans p1; have k5 := (b5.cell (p := ⟨kblk, koff, none⟩) (Nat.lt_of_lt_of_le hkl hb3.size)).trans hk3; clear hlk o5)
                        go_quiet (fail)
                        go_wp2
                        go_roundw
                        case rel => exact ⟨n' + 1, by go_num, by have := hgA.out; omega, hb3.trans ((b5.mono hb3.size).trans (Below.mono (below_drewN _ _) (Nat.le_trans hb3.size b5.size)))⟩
                        case measure => have := hgA.out; simp [intOf]; omega
                    · have hSe := hS2.below hb3
                      have hbee := hbe.trans (hb3.mono hbe.size)
                      by_cases hg1 : n' ≤ i
                      · have hg1I : (n' : Int) ≤ (i : Int) := by omega
                        have hL0 : (L3).length = 0 := by omega
                        go_wp2
                        go_roundw
                        case rel => exact ⟨i + 1, hi, mi, L3, n + 1 + 1, last3, used3, by go_num, by omega, by omega, hSe, hI2, hbee⟩
                        case measure => simp [intOf]; omega
                      · have hg1I : decide ((n' : Int) ≤ (i : Int)) = false := decide_eq_false (by omega)
                        go_wp2
                        go_roundw
                        case rel => exact ⟨i + 1, hi, mi, L3, n + 1 + 1, last3, used3, by go_num, by omega, by omega, hSe, hI2, hbee⟩
                        case measure => simp [intOf]; omega
          · have hP := Put_big hS1.ca key (by omega) _ bs hrd1 (by omega) huF (by omega)
            go_wp2_with (first
              | (go_at_call 15; refine hP.mono ?_; rintro e w3 ⟨rfl, b3⟩; have hS := hS1.below b3; have hbt := hb1.trans (b3.mono hb1.size); have hbx3 := hbx.below b3; obtain ⟨z0, z1, z2⟩ := hbx3.cells; clear hP)
              | (go_at_call 9; refine (num_is _ _).mono ?_; rintro e w0 ⟨rfl, hw0⟩; have hw0 := hw0.symm; subst hw0))
            have hI2 := hI.same
            clear hS0 hS0c hS1 hb0 hb1 hbx hrd1 huF x0 x1 x2 ha hbx3 z0 z1 z2
            as_aux_lemma =>
              have hCs := hS.ca
              have hTailM : ((L).map (·.key)).Nodup := hCs.sh.ks
              have hlen := hCs.sh.len
              go_wp2_with (go_at_call 18; refine (Keys_is hCs).mono ?_; rintro e wk ⟨ku, rfl, ko, kb⟩; obtain ⟨KA, kc, rfl, _⟩ := ko.rd.form)
              have hSk := hS.below kb
              have hbk := hbt.trans (kb.mono hbt.size)
              have kat := KS.at ko.rd
              clear hS hCs kb ko
              go_loopw [14, 15] (fun tv nv wr2 => ∃ j : Nat, nv = .int .i64 j ∧ j ≤ (L).length ∧ tv = .int .i64 (ol used (L) j : Nat) ∧ Below wk.heap.size wk wr2) (fun _ nv _ => (L).length - (intOf nv).toNat)
              case atStart => exact ⟨0, rfl, Nat.zero_le _, rfl, Below.refl _ _⟩
              case round =>
                obtain ⟨j, rfl, hj, rfl, hb2⟩ := hrel
                by_cases hjl : j < (L).length
                · obtain ⟨kblk, koff, hKA, hkl, hkc⟩ := kat (by rw [List.length_map]; omega)
                  subst hKA
                  have hkj := hkc j (by rw [List.length_map]; exact hjl)
                  rw [List.getElem_map] at hkj
                  have y0 := (hb2.cell (p := ⟨kblk, koff + j, none⟩) hkl).trans hkj
                  have hsm := hSk.ca.sh.small (List.getElem_mem hjl)
                  have hkm : (L)[j].key.size ≤ maxLen := by unfold maxLen; omega
                  have hP := Peek_is (hSk.ca.below hb2) (L)[j].key hkm
                  rw [isIn_mem (List.getElem_mem hjl), valC_mem hTailM (List.getElem_mem hjl)] at hP
                  have hlk : ∀ w5, Below wr.heap.size wr w5 → ∀ nq, (Instr.lookup 50 (.map (some m1)) (.string (L)[j].key) false).run Try.prog (w5.drewN nq) = .ok (.string (str (L)[j].val)) (w5.drewN nq) ∧ (Instr.lookup 51 (.map (some m2)) (.string (L)[j].key) false).run Try.prog (w5.drewN nq) = .ok (.int .i64 (used (L)[j].key : Nat)) (w5.drewN nq) := fun w5 b5 nq => by
                    have s5 := ((hSk.below hb2).below b5).below (below_drewN w5 nq)
                    have e1 := s5.m1.look (L)[j].key hkm
                    rw [hI2.va _ (List.getElem_mem hjl)] at e1
                    exact ⟨e1, s5.m2.look (L)[j].key hkm⟩
                  have hcv : ∀ w5 u5, Own w5 wr.heap.size u5 (L)[j].val → ∀ nq, (convert 32 9 u5).run Try.prog (w5.drewN nq) = .ok (.string (str (L)[j].val)) (w5.drewN nq) := fun w5 u5 o5 nq => conv_rd std (show Rd (w5.drewN nq) u5 (L)[j].val from o5.rd)
                  have hol := ol_lt hI2 hjl
                  have hos := hid (ol_succ (used := used) hjl)
                  have hud := hI2.bd (L)[j].key
                  have hjA : Hid (j < (L).length) := hid hjl
                  have hjI : (j : Int) < ((L).length : Int) := by omega
                  clear hkc hkj hsm hkm
                  generalize ol used (L) j = oj at *
                  generalize used (L)[j].key = uj at *
                  generalize (L)[j].key = kj at *
                  generalize (L)[j].val = vj at *
                  have hdl : decide (uj ≤ oj) = false := decide_eq_false (by omega)
                  have hrefl : (str vj).toList == (str vj).toList := by simp
                  go_wp2_with (go_at_call 13; refine hP.mono ?_; rintro e w5 ⟨u5, rfl, o5, b5⟩; have cv := hcv w5 u5 o5; obtain ⟨A5, c5, rfl, _⟩ := id o5.rd; have y5 := (b5.cell (p := ⟨kblk, koff + j, none⟩) (Nat.lt_of_lt_of_le hkl hb2.size)).trans y0; have lk1 := fun nq => (hlk w5 b5 nq).1; have lk2 := fun nq => (hlk w5 b5 nq).2; clear hlk hcv o5)
                  by_cases hj0 : j = 0
                  · have hjd : ((j : Int) == 0) = true := by simp [hj0]
                    clear hj0
                    go_quiet (fail)
                    go_wp2
                    go_roundw
                    case rel => exact ⟨j + 1, by go_num, by have := hjA.out; omega, by rw [hos.out], hb2.trans ((b5.mono hb2.size).trans (Below.mono (below_drewN _ _) (Nat.le_trans hb2.size b5.size)))⟩
                    case measure => have := hjA.out; simp [intOf]; omega
                  · have hjd : ((j : Int) == 0) = false := by simpa using hj0
                    clear hj0
                    go_quiet (fail)
                    go_wp2
                    go_roundw
                    case rel => exact ⟨j + 1, by go_num, by have := hjA.out; omega, by rw [hos.out], hb2.trans ((b5.mono hb2.size).trans (Below.mono (below_drewN _ _) (Nat.le_trans hb2.size b5.size)))⟩
                    case measure => have := hjA.out; simp [intOf]; omega
                · obtain rfl : j = (L).length := by omega
                  have hS2 := hSk.below hb2
                  have hbe := hbk.trans (hb2.mono hbk.size)
                  have hkhead : 0 < (L).length → ∃ kblk koff e0, KA = some ⟨kblk, koff, none⟩ ∧ e0 ∈ (L) ∧ kblk < wr.heap.size ∧ wr.cell? ⟨kblk, koff, none⟩ = some (.string e0.key) := fun h0 => by
                    obtain ⟨kblk, koff, hKA, hkl, hkc⟩ := kat (by rw [List.length_map]; omega)
                    have h1 := hkc 0 (by rw [List.length_map]; omega)
                    rw [List.getElem_map, Nat.add_zero] at h1
                    exact ⟨kblk, koff, (L)[0], hKA, List.getElem_mem h0, Nat.lt_of_lt_of_le hkl hb2.size, (hb2.cell (p := ⟨kblk, koff, none⟩) hkl).trans h1⟩
                  clear hSk hbk hb2 kat
                  go_wp2
                  generalize wr = wz at *
                  go_loopw [18] (fun nv wr3 => ∃ n' : Nat, nv = .int .i64 n' ∧ n' ≤ i + 1 ∧ Below wz.heap.size wz wr3) (fun nv _ => i + 1 - (intOf nv).toNat)
                  case atStart => exact ⟨0, rfl, by omega, Below.refl _ _⟩
                  case round =>
                    obtain ⟨n', rfl, hn', hb3⟩ := hrel
                    by_cases hgo : n' ≤ i ∧ 0 < (L).length
                    · obtain ⟨hg1, hg2⟩ := hgo
                      obtain ⟨kblk, koff, e0, hKA, he0, hkl, hk0⟩ := hkhead hg2
                      subst hKA
                      obtain ⟨_, p1, _, _, hpk, _⟩ := hcell n' (by omega)
                      have p1 := ((hbe.trans (hb3.mono hbe.size)).cell (p := ⟨b, off + (n' * 3 + 1), none⟩) hbl).trans p1
                      rw [← Nat.add_assoc] at p1
                      have hpb : b < wr.heap.size := Nat.lt_of_lt_of_le hbl (hbe.trans (hb3.mono hbe.size)).size
                      have hk3 := (hb3.cell (p := ⟨kblk, koff, none⟩) hkl).trans hk0
                      have hpm : ops[n'].key.size ≤ maxLen := by unfold maxLen; omega
                      have hP := Peek_is (hS2.ca.below hb3) ops[n'].key hpm
                      have hgA : Hid (n' ≤ i) := hid hg1
                      have hg1I : (n' : Int) ≤ (i : Int) := by omega
                      have hg2I : (0 : Int) < ((L).length : Int) := by omega
                      have hnI : (n' : Int) < (ops.length : Int) := by omega
                      have hsm := hS2.ca.sh.small he0
                      have hlk : ∀ w5, Below wr.heap.size wr w5 → ∀ nq, (Instr.lookup 51 (.map (some m2)) (.string ops[n'].key) false).run Try.prog (w5.drewN nq) = .ok (.int .i64 (used ops[n'].key : Nat)) (w5.drewN nq) ∧ (Instr.lookup 51 (.map (some m2)) (.string e0.key) false).run Try.prog (w5.drewN nq) = .ok (.int .i64 (used e0.key : Nat)) (w5.drewN nq) := fun w5 b5 nq => by
                        have s5 := ((hS2.below hb3).below b5).below (below_drewN w5 nq)
                        exact ⟨s5.m2.look _ hpm, s5.m2.look _ (by unfold maxLen; omega)⟩
                      have hout : isIn ops[n'].key (L) = false → decide (used e0.key < used ops[n'].key) = false := fun h0 => decide_eq_false (by have := hI2.out _ h0 e0 he0; omega)
                      clear hpm hsm hk0
                      generalize ops[n'].key = kp at *
                      generalize used kp = up at *
                      generalize used e0.key = ue at *
                      generalize e0.key = ke at *
                      cases hin' : isIn kp (L) with
                      | true =>
                        rw [hin'] at hP
                        clear hin' hout
                        go_wp2_with (go_at_call 13; refine hP.mono ?_; rintro e w5 ⟨u5, rfl, o5, b5⟩; clear hlk o5)
                        go_quiet (fail)
                        go_wp2
                        go_roundw
                        case rel => exact ⟨n' + 1, by go_num, by have := hgA.out; omega, hb3.trans ((b5.mono hb3.size).trans (Below.mono (below_drewN _ _) (Nat.le_trans hb3.size b5.size)))⟩
                        case measure => have := hgA.out; simp [intOf]; omega
                      | false =>
                        rw [hin'] at hP
                        have hdl := hout hin'
                        clear hin' hout
                        go_wp2_with (go_at_call 13; refine hP.mono ?_; rintro e w5 ⟨u5, rfl, o5, b5⟩; have lk1 := fun nq => (hlk w5 b5 nq).1; have lk2 := fun nq => (hlk w5 b5 nq).2; have p5 := (b5.cell (p := ⟨b, off + n' * 3 + 1, none⟩) hpb).trans p1; have k5 := (b5.cell (p := ⟨kblk, koff, none⟩) (Nat.lt_of_lt_of_le hkl hb3.size)).trans hk3; clear hlk o5)
                        go_quiet (fail)
                        go_wp2
                        go_roundw
                        case rel => exact ⟨n' + 1, by go_num, by have := hgA.out; omega, hb3.trans ((b5.mono hb3.size).trans (Below.mono (below_drewN _ _) (Nat.le_trans hb3.size b5.size)))⟩
                        case measure => have := hgA.out; simp [intOf]; omega
                    · have hSe := hS2.below hb3
                      have hbee := hbe.trans (hb3.mono hbe.size)
                      by_cases hg1 : n' ≤ i
                      · have hg1I : (n' : Int) ≤ (i : Int) := by omega
                        have hL0 : (L).length = 0 := by omega
                        go_wp2
                        go_roundw
                        case rel => exact ⟨i + 1, hi, mi, L, n, last, used, by go_num, by omega, by omega, hSe, hI2, hbee⟩
                        case measure => simp [intOf]; omega
                      · have hg1I : decide ((n' : Int) ≤ (i : Int)) = false := decide_eq_false (by omega)
                        go_wp2
                        go_roundw
                        case rel => exact ⟨i + 1, hi, mi, L, n, last, used, by go_num, by omega, by omega, hSe, hI2, hbee⟩
                        case measure => simp [intOf]; omega
        · by_cases k1 : kd = 1
          · subst k1
            have hG := Get_is hS1.ca key hkm
            cases hin1 : isIn key L with
            | true =>
              rw [hin1] at hG
              simp only [if_true] at hG
              obtain ⟨hI2, hgl⟩ := hI.get key hS0c.sh.ks hin1
              generalize IntKind.i64.wrap (hi + 1) = hi3 at *
              generalize valC key L = vk at *
              have hrefl : (str vk).toList == (str vk).toList := by simp
              go_wp2_with (go_at_call 12; refine hG.mono ?_; rintro e w3 ⟨u3, rfl, o3, hC3, ht3⟩; have hS3 := hS1.foot ht3 hC3; have hb3 := hS1.ca.keep hb1 ht3; have hbx3 := hbx.foot hS1.ca.sh ht3; obtain ⟨z0, z1, z2⟩ := hbx3.cells; obtain ⟨w4, st4, hS, ht4⟩ := hS3.st2 key hkm (i + 1) (by omega) (by unfold maxLen; omega); rw [hi1] at st4; have hbt := hS3.keep2 hb3 ht4; have hbx4 := hS3.bx2 hbx3 ht4; obtain ⟨z0', z1', z2'⟩ := hbx4.cells; obtain ⟨mes, mcl, hmb⟩ := hS3.m2.blk; have o4 := o3.touch ht4 (nb_map hmb); have cv := conv_rd std o4.rd; obtain ⟨A3, c3, rfl, _⟩ := id o3.rd; have lk := hS.m1.look key hkm; rw [hgl] at lk; clear hG o3 o4 hmb)
              clear hS0 hS0c hS1 hb0 hb1 hbx hrd1 huF x0 x1 x2 ha hbx3 hbx4 z0 z1 z2 z0' z1' z2' st4 hS3 hb3 cv lk hC3 hgl hrefl
              generalize bump key L = L3 at *
              generalize upd used key (i + 1) = used3 at *
              as_aux_lemma =>
                have hCs := hS.ca
                have hTailM : ((L3).map (·.key)).Nodup := hCs.sh.ks
                have hlen := hCs.sh.len
                go_wp2_with (go_at_call 18; refine (Keys_is hCs).mono ?_; rintro e wk ⟨ku, rfl, ko, kb⟩; obtain ⟨KA, kc, rfl, _⟩ := ko.rd.form)
                have hSk := hS.below kb
                have hbk := hbt.trans (kb.mono hbt.size)
                have kat := KS.at ko.rd
                clear hS hCs kb ko
                go_loopw [14, 15] (fun tv nv wr2 => ∃ j : Nat, nv = .int .i64 j ∧ j ≤ (L3).length ∧ tv = .int .i64 (ol used3 (L3) j : Nat) ∧ Below wk.heap.size wk wr2) (fun _ nv _ => (L3).length - (intOf nv).toNat)
                case atStart => exact ⟨0, rfl, Nat.zero_le _, rfl, Below.refl _ _⟩
                case round =>
                  obtain ⟨j, rfl, hj, rfl, hb2⟩ := hrel
                  by_cases hjl : j < (L3).length
                  · obtain ⟨kblk, koff, hKA, hkl, hkc⟩ := kat (by rw [List.length_map]; omega)
                    subst hKA
                    have hkj := hkc j (by rw [List.length_map]; exact hjl)
                    rw [List.getElem_map] at hkj
                    have y0 := (hb2.cell (p := ⟨kblk, koff + j, none⟩) hkl).trans hkj
                    have hsm := hSk.ca.sh.small (List.getElem_mem hjl)
                    have hkm : (L3)[j].key.size ≤ maxLen := by unfold maxLen; omega
                    have hP := Peek_is (hSk.ca.below hb2) (L3)[j].key hkm
                    rw [isIn_mem (List.getElem_mem hjl), valC_mem hTailM (List.getElem_mem hjl)] at hP
                    have hlk : ∀ w5, Below wr.heap.size wr w5 → ∀ nq, (Instr.lookup 50 (.map (some m1)) (.string (L3)[j].key) false).run Try.prog (w5.drewN nq) = .ok (.string (str (L3)[j].val)) (w5.drewN nq) ∧ (Instr.lookup 51 (.map (some m2)) (.string (L3)[j].key) false).run Try.prog (w5.drewN nq) = .ok (.int .i64 (used3 (L3)[j].key : Nat)) (w5.drewN nq) := fun w5 b5 nq => by
                      have s5 := ((hSk.below hb2).below b5).below (below_drewN w5 nq)
                      have e1 := s5.m1.look (L3)[j].key hkm
                      rw [hI2.va _ (List.getElem_mem hjl)] at e1
                      exact ⟨e1, s5.m2.look (L3)[j].key hkm⟩
                    have hcv : ∀ w5 u5, Own w5 wr.heap.size u5 (L3)[j].val → ∀ nq, (convert 32 9 u5).run Try.prog (w5.drewN nq) = .ok (.string (str (L3)[j].val)) (w5.drewN nq) := fun w5 u5 o5 nq => conv_rd std (show Rd (w5.drewN nq) u5 (L3)[j].val from o5.rd)
                    have hol := ol_lt hI2 hjl
                    have hos := hid (ol_succ (used := used3) hjl)
                    have hud := hI2.bd (L3)[j].key
                    have hjA : Hid (j < (L3).length) := hid hjl
                    have hjI : (j : Int) < ((L3).length : Int) := by omega
                    clear hkc hkj hsm hkm
                    generalize ol used3 (L3) j = oj at *
                    generalize used3 (L3)[j].key = uj at *
                    generalize (L3)[j].key = kj at *
                    generalize (L3)[j].val = vj at *
                    have hdl : decide (uj ≤ oj) = false := decide_eq_false (by omega)
                    have hrefl : (str vj).toList == (str vj).toList := by simp
                    go_wp2_with (go_at_call 13; refine hP.mono ?_; rintro e w5 ⟨u5, rfl, o5, b5⟩; have cv := hcv w5 u5 o5; obtain ⟨A5, c5, rfl, _⟩ := id o5.rd; have y5 := (b5.cell (p := ⟨kblk, koff + j, none⟩) (Nat.lt_of_lt_of_le hkl hb2.size)).trans y0; have lk1 := fun nq => (hlk w5 b5 nq).1; have lk2 := fun nq => (hlk w5 b5 nq).2; clear hlk hcv o5)
                    by_cases hj0 : j = 0
                    · have hjd : ((j : Int) == 0) = true := by simp [hj0]
                      clear hj0
                      go_quiet (fail)
                      go_wp2
                      go_roundw
                      case rel => exact ⟨j + 1, by go_num, by have := hjA.out; omega, by rw [hos.out], hb2.trans ((b5.mono hb2.size).trans (Below.mono (below_drewN _ _) (Nat.le_trans hb2.size b5.size)))⟩
                      case measure => have := hjA.out; simp [intOf]; omega
                    · have hjd : ((j : Int) == 0) = false := by simpa using hj0
                      clear hj0
                      go_quiet (fail)
                      go_wp2
                      go_roundw
                      case rel => exact ⟨j + 1, by go_num, by have := hjA.out; omega, by rw [hos.out], hb2.trans ((b5.mono hb2.size).trans (Below.mono (below_drewN _ _) (Nat.le_trans hb2.size b5.size)))⟩
                      case measure => have := hjA.out; simp [intOf]; omega
                  · obtain rfl : j = (L3).length := by omega
                    have hS2 := hSk.below hb2
                    have hbe := hbk.trans (hb2.mono hbk.size)
                    have hkhead : 0 < (L3).length → ∃ kblk koff e0, KA = some ⟨kblk, koff, none⟩ ∧ e0 ∈ (L3) ∧ kblk < wr.heap.size ∧ wr.cell? ⟨kblk, koff, none⟩ = some (.string e0.key) := fun h0 => by
                      obtain ⟨kblk, koff, hKA, hkl, hkc⟩ := kat (by rw [List.length_map]; omega)
                      have h1 := hkc 0 (by rw [List.length_map]; omega)
                      rw [List.getElem_map, Nat.add_zero] at h1
                      exact ⟨kblk, koff, (L3)[0], hKA, List.getElem_mem h0, Nat.lt_of_lt_of_le hkl hb2.size, (hb2.cell (p := ⟨kblk, koff, none⟩) hkl).trans h1⟩
                    clear hSk hbk hb2 kat
                    go_wp2
                    generalize wr = wz at *
                    go_loopw [18] (fun nv wr3 => ∃ n' : Nat, nv = .int .i64 n' ∧ n' ≤ i + 1 ∧ Below wz.heap.size wz wr3) (fun nv _ => i + 1 - (intOf nv).toNat)
                    case atStart => exact ⟨0, rfl, by omega, Below.refl _ _⟩
                    case round =>
                      obtain ⟨n', rfl, hn', hb3⟩ := hrel
                      by_cases hgo : n' ≤ i ∧ 0 < (L3).length
                      · obtain ⟨hg1, hg2⟩ := hgo
                        obtain ⟨kblk, koff, e0, hKA, he0, hkl, hk0⟩ := hkhead hg2
                        subst hKA
                        obtain ⟨_, p1, _, _, hpk, _⟩ := hcell n' (by omega)
                        have p1 := ((hbe.trans (hb3.mono hbe.size)).cell (p := ⟨b, off + (n' * 3 + 1), none⟩) hbl).trans p1
                        rw [← Nat.add_assoc] at p1
                        have hpb : b < wr.heap.size := Nat.lt_of_lt_of_le hbl (hbe.trans (hb3.mono hbe.size)).size
                        have hk3 := (hb3.cell (p := ⟨kblk, koff, none⟩) hkl).trans hk0
                        have hpm : ops[n'].key.size ≤ maxLen := by unfold maxLen; omega
                        have hP := Peek_is (hS2.ca.below hb3) ops[n'].key hpm
                        have hgA : Hid (n' ≤ i) := hid hg1
                        have hg1I : (n' : Int) ≤ (i : Int) := by omega
                        have hg2I : (0 : Int) < ((L3).length : Int) := by omega
                        have hnI : (n' : Int) < (ops.length : Int) := by omega
                        have hsm := hS2.ca.sh.small he0
                        have hlk : ∀ w5, Below wr.heap.size wr w5 → ∀ nq, (Instr.lookup 51 (.map (some m2)) (.string ops[n'].key) false).run Try.prog (w5.drewN nq) = .ok (.int .i64 (used3 ops[n'].key : Nat)) (w5.drewN nq) ∧ (Instr.lookup 51 (.map (some m2)) (.string e0.key) false).run Try.prog (w5.drewN nq) = .ok (.int .i64 (used3 e0.key : Nat)) (w5.drewN nq) := fun w5 b5 nq => by
                          have s5 := ((hS2.below hb3).below b5).below (below_drewN w5 nq)
                          exact ⟨s5.m2.look _ hpm, s5.m2.look _ (by unfold maxLen; omega)⟩
                        have hout : isIn ops[n'].key (L3) = false → decide (used3 e0.key < used3 ops[n'].key) = false := fun h0 => decide_eq_false (by have := hI2.out _ h0 e0 he0; omega)
                        clear hpm hsm hk0
                        generalize ops[n'].key = kp at *
                        generalize used3 kp = up at *
                        generalize used3 e0.key = ue at *
                        generalize e0.key = ke at *
                        cases hin' : isIn kp (L3) with
                        | true =>
                          rw [hin'] at hP
                          clear hin' hout
                          go_wp2_with (go_at_call 13; refine hP.mono ?_; rintro e w5 ⟨u5, rfl, o5, b5⟩; clear hlk o5)
                          go_quiet (fail)
                          go_wp2
                          go_roundw
                          case rel => exact ⟨n' + 1, by go_num, by have := hgA.out; omega, hb3.trans ((b5.mono hb3.size).trans (Below.mono (below_drewN _ _) (Nat.le_trans hb3.size b5.size)))⟩
                          case measure => have := hgA.out; simp [intOf]; omega
                        | false =>
                          rw [hin'] at hP
                          have hdl := hout hin'
                          clear hin' hout
                          go_wp2_with (go_at_call 13; refine hP.mono ?_; rintro e w5 ⟨u5, rfl, o5, b5⟩; have lk1 := fun nq => (hlk w5 b5 nq).1; have lk2 := fun nq => (hlk w5 b5 nq).2; have p5 := (b5.cell (p := ⟨b, off + n' * 3 + 1, none⟩) hpb).trans p1; have k5 := (b5.cell (p := ⟨kblk, koff, none⟩) (Nat.lt_of_lt_of_le hkl hb3.size)).trans hk3; clear hlk o5)
                          go_quiet (fail)
                          go_wp2
                          go_roundw
                          case rel => exact ⟨n' + 1, by go_num, by have := hgA.out; omega, hb3.trans ((b5.mono hb3.size).trans (Below.mono (below_drewN _ _) (Nat.le_trans hb3.size b5.size)))⟩
                          case measure => have := hgA.out; simp [intOf]; omega
                      · have hSe := hS2.below hb3
                        have hbee := hbe.trans (hb3.mono hbe.size)
                        by_cases hg1 : n' ≤ i
                        · have hg1I : (n' : Int) ≤ (i : Int) := by omega
                          have hL0 : (L3).length = 0 := by omega
                          go_wp2
                          go_roundw
                          case rel => exact ⟨i + 1, hi3, mi, L3, n + 1, last, used3, by go_num, by omega, by omega, hSe, hI2, hbee⟩
                          case measure => simp [intOf]; omega
                        · have hg1I : decide ((n' : Int) ≤ (i : Int)) = false := decide_eq_false (by omega)
                          go_wp2
                          go_roundw
                          case rel => exact ⟨i + 1, hi3, mi, L3, n + 1, last, used3, by go_num, by omega, by omega, hSe, hI2, hbee⟩
                          case measure => simp [intOf]; omega
            | false =>
              have hbump : bump key L = L := by unfold bump; rw [theIt_no hin1]
              rw [hin1, hbump] at hG
              simp only [Bool.false_eq_true, if_false] at hG
              have hI2 := hI.same
              generalize IntKind.i64.wrap (mi + 1) = mi3 at *
              go_wp2_with (go_at_call 12; refine hG.mono ?_; rintro e w3 ⟨u3, rfl, o3, hC3, ht3⟩; have hS := hS1.foot ht3 hC3; have hbt := hS1.ca.keep hb1 ht3; have hbx3 := hbx.foot hS1.ca.sh ht3; obtain ⟨z0, z1, z2⟩ := hbx3.cells; clear hG o3)
              clear hS0 hS0c hS1 hb0 hb1 hbx hrd1 huF x0 x1 x2 ha hbx3 z0 z1 z2 hC3
              as_aux_lemma =>
                have hCs := hS.ca
                have hTailM : ((L).map (·.key)).Nodup := hCs.sh.ks
                have hlen := hCs.sh.len
                go_wp2_with (go_at_call 18; refine (Keys_is hCs).mono ?_; rintro e wk ⟨ku, rfl, ko, kb⟩; obtain ⟨KA, kc, rfl, _⟩ := ko.rd.form)
                have hSk := hS.below kb
                have hbk := hbt.trans (kb.mono hbt.size)
                have kat := KS.at ko.rd
                clear hS hCs kb ko
                go_loopw [14, 15] (fun tv nv wr2 => ∃ j : Nat, nv = .int .i64 j ∧ j ≤ (L).length ∧ tv = .int .i64 (ol used (L) j : Nat) ∧ Below wk.heap.size wk wr2) (fun _ nv _ => (L).length - (intOf nv).toNat)
                case atStart => exact ⟨0, rfl, Nat.zero_le _, rfl, Below.refl _ _⟩
                case round =>
                  obtain ⟨j, rfl, hj, rfl, hb2⟩ := hrel
                  by_cases hjl : j < (L).length
                  · obtain ⟨kblk, koff, hKA, hkl, hkc⟩ := kat (by rw [List.length_map]; omega)
                    subst hKA
                    have hkj := hkc j (by rw [List.length_map]; exact hjl)
                    rw [List.getElem_map] at hkj
                    have y0 := (hb2.cell (p := ⟨kblk, koff + j, none⟩) hkl).trans hkj
                    have hsm := hSk.ca.sh.small (List.getElem_mem hjl)
                    have hkm : (L)[j].key.size ≤ maxLen := by unfold maxLen; omega
                    have hP := Peek_is (hSk.ca.below hb2) (L)[j].key hkm
                    rw [isIn_mem (List.getElem_mem hjl), valC_mem hTailM (List.getElem_mem hjl)] at hP
                    have hlk : ∀ w5, Below wr.heap.size wr w5 → ∀ nq, (Instr.lookup 50 (.map (some m1)) (.string (L)[j].key) false).run Try.prog (w5.drewN nq) = .ok (.string (str (L)[j].val)) (w5.drewN nq) ∧ (Instr.lookup 51 (.map (some m2)) (.string (L)[j].key) false).run Try.prog (w5.drewN nq) = .ok (.int .i64 (used (L)[j].key : Nat)) (w5.drewN nq) := fun w5 b5 nq => by
                      have s5 := ((hSk.below hb2).below b5).below (below_drewN w5 nq)
                      have e1 := s5.m1.look (L)[j].key hkm
                      rw [hI2.va _ (List.getElem_mem hjl)] at e1
                      exact ⟨e1, s5.m2.look (L)[j].key hkm⟩
                    have hcv : ∀ w5 u5, Own w5 wr.heap.size u5 (L)[j].val → ∀ nq, (convert 32 9 u5).run Try.prog (w5.drewN nq) = .ok (.string (str (L)[j].val)) (w5.drewN nq) := fun w5 u5 o5 nq => conv_rd std (show Rd (w5.drewN nq) u5 (L)[j].val from o5.rd)
                    have hol := ol_lt hI2 hjl
                    have hos := hid (ol_succ (used := used) hjl)
                    have hud := hI2.bd (L)[j].key
                    have hjA : Hid (j < (L).length) := hid hjl
                    have hjI : (j : Int) < ((L).length : Int) := by omega
                    clear hkc hkj hsm hkm
                    generalize ol used (L) j = oj at *
                    generalize used (L)[j].key = uj at *
                    generalize (L)[j].key = kj at *
                    generalize (L)[j].val = vj at *
                    have hdl : decide (uj ≤ oj) = false := decide_eq_false (by omega)
                    have hrefl : (str vj).toList == (str vj).toList := by simp
                    go_wp2_with (go_at_call 13; refine hP.mono ?_; rintro e w5 ⟨u5, rfl, o5, b5⟩; have cv := hcv w5 u5 o5; obtain ⟨A5, c5, rfl, _⟩ := id o5.rd; have y5 := (b5.cell (p := ⟨kblk, koff + j, none⟩) (Nat.lt_of_lt_of_le hkl hb2.size)).trans y0; have lk1 := fun nq => (hlk w5 b5 nq).1; have lk2 := fun nq => (hlk w5 b5 nq).2; clear hlk hcv o5)
                    by_cases hj0 : j = 0
                    · have hjd : ((j : Int) == 0) = true := by simp [hj0]
                      clear hj0
                      go_quiet (fail)
                      go_wp2
                      go_roundw
                      case rel => exact ⟨j + 1, by go_num, by have := hjA.out; omega, by rw [hos.out], hb2.trans ((b5.mono hb2.size).trans (Below.mono (below_drewN _ _) (Nat.le_trans hb2.size b5.size)))⟩
                      case measure => have := hjA.out; simp [intOf]; omega
                    · have hjd : ((j : Int) == 0) = false := by simpa using hj0
                      clear hj0
                      go_quiet (fail)
                      go_wp2
                      go_roundw
                      case rel => exact ⟨j + 1, by go_num, by have := hjA.out; omega, by rw [hos.out], hb2.trans ((b5.mono hb2.size).trans (Below.mono (below_drewN _ _) (Nat.le_trans hb2.size b5.size)))⟩
                      case measure => have := hjA.out; simp [intOf]; omega
                  · obtain rfl : j = (L).length := by omega
                    have hS2 := hSk.below hb2
                    have hbe := hbk.trans (hb2.mono hbk.size)
                    have hkhead : 0 < (L).length → ∃ kblk koff e0, KA = some ⟨kblk, koff, none⟩ ∧ e0 ∈ (L) ∧ kblk < wr.heap.size ∧ wr.cell? ⟨kblk, koff, none⟩ = some (.string e0.key) := fun h0 => by
                      obtain ⟨kblk, koff, hKA, hkl, hkc⟩ := kat (by rw [List.length_map]; omega)
                      have h1 := hkc 0 (by rw [List.length_map]; omega)
                      rw [List.getElem_map, Nat.add_zero] at h1
                      exact ⟨kblk, koff, (L)[0], hKA, List.getElem_mem h0, Nat.lt_of_lt_of_le hkl hb2.size, (hb2.cell (p := ⟨kblk, koff, none⟩) hkl).trans h1⟩
                    clear hSk hbk hb2 kat
                    go_wp2
                    generalize wr = wz at *
                    go_loopw [18] (fun nv wr3 => ∃ n' : Nat, nv = .int .i64 n' ∧ n' ≤ i + 1 ∧ Below wz.heap.size wz wr3) (fun nv _ => i + 1 - (intOf nv).toNat)
                    case atStart => exact ⟨0, rfl, by omega, Below.refl _ _⟩
                    case round =>
                      obtain ⟨n', rfl, hn', hb3⟩ := hrel
                      by_cases hgo : n' ≤ i ∧ 0 < (L).length
                      · obtain ⟨hg1, hg2⟩ := hgo
                        obtain ⟨kblk, koff, e0, hKA, he0, hkl, hk0⟩ := hkhead hg2
                        subst hKA
                        obtain ⟨_, p1, _, _, hpk, _⟩ := hcell n' (by omega)
                        have p1 := ((hbe.trans (hb3.mono hbe.size)).cell (p := ⟨b, off + (n' * 3 + 1), none⟩) hbl).trans p1
                        rw [← Nat.add_assoc] at p1
                        have hpb : b < wr.heap.size := Nat.lt_of_lt_of_le hbl (hbe.trans (hb3.mono hbe.size)).size
                        have hk3 := (hb3.cell (p := ⟨kblk, koff, none⟩) hkl).trans hk0
                        have hpm : ops[n'].key.size ≤ maxLen := by unfold maxLen; omega
                        have hP := Peek_is (hS2.ca.below hb3) ops[n'].key hpm
                        have hgA : Hid (n' ≤ i) := hid hg1
                        have hg1I : (n' : Int) ≤ (i : Int) := by omega
                        have hg2I : (0 : Int) < ((L).length : Int) := by omega
                        have hnI : (n' : Int) < (ops.length : Int) := by omega
                        have hsm := hS2.ca.sh.small he0
                        have hlk : ∀ w5, Below wr.heap.size wr w5 → ∀ nq, (Instr.lookup 51 (.map (some m2)) (.string ops[n'].key) false).run Try.prog (w5.drewN nq) = .ok (.int .i64 (used ops[n'].key : Nat)) (w5.drewN nq) ∧ (Instr.lookup 51 (.map (some m2)) (.string e0.key) false).run Try.prog (w5.drewN nq) = .ok (.int .i64 (used e0.key : Nat)) (w5.drewN nq) := fun w5 b5 nq => by
                          have s5 := ((hS2.below hb3).below b5).below (below_drewN w5 nq)
                          exact ⟨s5.m2.look _ hpm, s5.m2.look _ (by unfold maxLen; omega)⟩
                        have hout : isIn ops[n'].key (L) = false → decide (used e0.key < used ops[n'].key) = false := fun h0 => decide_eq_false (by have := hI2.out _ h0 e0 he0; omega)
                        clear hpm hsm hk0
                        generalize ops[n'].key = kp at *
                        generalize used kp = up at *
                        generalize used e0.key = ue at *
                        generalize e0.key = ke at *
                        cases hin' : isIn kp (L) with
                        | true =>
                          rw [hin'] at hP
                          clear hin' hout
                          go_wp2_with (go_at_call 13; refine hP.mono ?_; rintro e w5 ⟨u5, rfl, o5, b5⟩; clear hlk o5)
                          go_quiet (fail)
                          go_wp2
                          go_roundw
                          case rel => exact ⟨n' + 1, by go_num, by have := hgA.out; omega, hb3.trans ((b5.mono hb3.size).trans (Below.mono (below_drewN _ _) (Nat.le_trans hb3.size b5.size)))⟩
                          case measure => have := hgA.out; simp [intOf]; omega
                        | false =>
                          rw [hin'] at hP
                          have hdl := hout hin'
                          clear hin' hout
                          go_wp2_with (go_at_call 13; refine hP.mono ?_; rintro e w5 ⟨u5, rfl, o5, b5⟩; have lk1 := fun nq => (hlk w5 b5 nq).1; have lk2 := fun nq => (hlk w5 b5 nq).2; have p5 := (b5.cell (p := ⟨b, off + n' * 3 + 1, none⟩) hpb).trans p1; have k5 := (b5.cell (p := ⟨kblk, koff, none⟩) (Nat.lt_of_lt_of_le hkl hb3.size)).trans hk3; clear hlk o5)
                          go_quiet (fail)
                          go_wp2
                          go_roundw
                          case rel => exact ⟨n' + 1, by go_num, by have := hgA.out; omega, hb3.trans ((b5.mono hb3.size).trans (Below.mono (below_drewN _ _) (Nat.le_trans hb3.size b5.size)))⟩
                          case measure => have := hgA.out; simp [intOf]; omega
                      · have hSe := hS2.below hb3
                        have hbee := hbe.trans (hb3.mono hbe.size)
                        by_cases hg1 : n' ≤ i
                        · have hg1I : (n' : Int) ≤ (i : Int) := by omega
                          have hL0 : (L).length = 0 := by omega
                          go_wp2
                          go_roundw
                          case rel => exact ⟨i + 1, hi, mi3, L, n, last, used, by go_num, by omega, by omega, hSe, hI2, hbee⟩
                          case measure => simp [intOf]; omega
                        · have hg1I : decide ((n' : Int) ≤ (i : Int)) = false := decide_eq_false (by omega)
                          go_wp2
                          go_roundw
                          case rel => exact ⟨i + 1, hi, mi3, L, n, last, used, by go_num, by omega, by omega, hSe, hI2, hbee⟩
                          case measure => simp [intOf]; omega
          · by_cases k3 : kd = 3
            · subst k3
              have hD := Drop_is hS1.ca key hkm
              have hI2 := hI.drop key
              generalize del key L = L3 at *
              go_wp2_with (go_at_call 16; refine hD.mono ?_; rintro e w3 ⟨rfl, hC3, ht3⟩; have hS3 := hS1.foot ht3 hC3; have hb3 := hS1.ca.keep hb1 ht3; have hbx3 := hbx.foot hS1.ca.sh ht3; obtain ⟨z0, z1, z2⟩ := hbx3.cells; obtain ⟨w4, st4, hS, ht4⟩ := hS3.st2 key hkm 0 (by omega) (by unfold maxLen; omega); rw [show ((0 : Nat) : Int) = 0 from rfl] at st4; have hbt := hS3.keep2 hb3 ht4; have hbx4 := hS3.bx2 hbx3 ht4; clear hD)
              clear hS0 hS0c hS1 hb0 hb1 hbx hrd1 huF x0 x1 x2 ha hbx3 hbx4 z0 z1 z2 st4 hS3 hb3 hC3
              generalize upd used key 0 = used3 at *
              as_aux_lemma =>
                have hCs := hS.ca
                have hTailM : ((L3).map (·.key)).Nodup := hCs.sh.ks
                have hlen := hCs.sh.len
                go_wp2_with (go_at_call 18; refine (Keys_is hCs).mono ?_; rintro e wk ⟨ku, rfl, ko, kb⟩; obtain ⟨KA, kc, rfl, _⟩ := ko.rd.form)
                have hSk := hS.below kb
                have hbk := hbt.trans (kb.mono hbt.size)
                have kat := KS.at ko.rd
                clear hS hCs kb ko
                go_loopw [14, 15] (fun tv nv wr2 => ∃ j : Nat, nv = .int .i64 j ∧ j ≤ (L3).length ∧ tv = .int .i64 (ol used3 (L3) j : Nat) ∧ Below wk.heap.size wk wr2) (fun _ nv _ => (L3).length - (intOf nv).toNat)
                case atStart => exact ⟨0, rfl, Nat.zero_le _, rfl, Below.refl _ _⟩
                case round =>
                  obtain ⟨j, rfl, hj, rfl, hb2⟩ := hrel
                  by_cases hjl : j < (L3).length
                  · obtain ⟨kblk, koff, hKA, hkl, hkc⟩ := kat (by rw [List.length_map]; omega)
                    subst hKA
                    have hkj := hkc j (by rw [List.length_map]; exact hjl)
                    rw [List.getElem_map] at hkj
                    have y0 := (hb2.cell (p := ⟨kblk, koff + j, none⟩) hkl).trans hkj
                    have hsm := hSk.ca.sh.small (List.getElem_mem hjl)
                    have hkm : (L3)[j].key.size ≤ maxLen := by unfold maxLen; omega
                    have hP := Peek_is (hSk.ca.below hb2) (L3)[j].key hkm
                    rw [isIn_mem (List.getElem_mem hjl), valC_mem hTailM (List.getElem_mem hjl)] at hP
                    have hlk : ∀ w5, Below wr.heap.size wr w5 → ∀ nq, (Instr.lookup 50 (.map (some m1)) (.string (L3)[j].key) false).run Try.prog (w5.drewN nq) = .ok (.string (str (L3)[j].val)) (w5.drewN nq) ∧ (Instr.lookup 51 (.map (some m2)) (.string (L3)[j].key) false).run Try.prog (w5.drewN nq) = .ok (.int .i64 (used3 (L3)[j].key : Nat)) (w5.drewN nq) := fun w5 b5 nq => by
                      have s5 := ((hSk.below hb2).below b5).below (below_drewN w5 nq)
                      have e1 := s5.m1.look (L3)[j].key hkm
                      rw [hI2.va _ (List.getElem_mem hjl)] at e1
                      exact ⟨e1, s5.m2.look (L3)[j].key hkm⟩
                    have hcv : ∀ w5 u5, Own w5 wr.heap.size u5 (L3)[j].val → ∀ nq, (convert 32 9 u5).run Try.prog (w5.drewN nq) = .ok (.string (str (L3)[j].val)) (w5.drewN nq) := fun w5 u5 o5 nq => conv_rd std (show Rd (w5.drewN nq) u5 (L3)[j].val from o5.rd)
                    have hol := ol_lt hI2 hjl
                    have hos := hid (ol_succ (used := used3) hjl)
                    have hud := hI2.bd (L3)[j].key
                    have hjA : Hid (j < (L3).length) := hid hjl
                    have hjI : (j : Int) < ((L3).length : Int) := by omega
                    clear hkc hkj hsm hkm
                    generalize ol used3 (L3) j = oj at *
                    generalize used3 (L3)[j].key = uj at *
                    generalize (L3)[j].key = kj at *
                    generalize (L3)[j].val = vj at *
                    have hdl : decide (uj ≤ oj) = false := decide_eq_false (by omega)
                    have hrefl : (str vj).toList == (str vj).toList := by simp
                    go_wp2_with (go_at_call 13; refine hP.mono ?_; rintro e w5 ⟨u5, rfl, o5, b5⟩; have cv := hcv w5 u5 o5; obtain ⟨A5, c5, rfl, _⟩ := id o5.rd; have y5 := (b5.cell (p := ⟨kblk, koff + j, none⟩) (Nat.lt_of_lt_of_le hkl hb2.size)).trans y0; have lk1 := fun nq => (hlk w5 b5 nq).1; have lk2 := fun nq => (hlk w5 b5 nq).2; clear hlk hcv o5)
                    by_cases hj0 : j = 0
                    · have hjd : ((j : Int) == 0) = true := by simp [hj0]
                      clear hj0
                      go_quiet (fail)
                      go_wp2
                      go_roundw
                      case rel => exact ⟨j + 1, by go_num, by have := hjA.out; omega, by rw [hos.out], hb2.trans ((b5.mono hb2.size).trans (Below.mono (below_drewN _ _) (Nat.le_trans hb2.size b5.size)))⟩
                      case measure => have := hjA.out; simp [intOf]; omega
                    · have hjd : ((j : Int) == 0) = false := by simpa using hj0
                      clear hj0
                      go_quiet (fail)
                      go_wp2
                      go_roundw
                      case rel => exact ⟨j + 1, by go_num, by have := hjA.out; omega, by rw [hos.out], hb2.trans ((b5.mono hb2.size).trans (Below.mono (below_drewN _ _) (Nat.le_trans hb2.size b5.size)))⟩
                      case measure => have := hjA.out; simp [intOf]; omega
                  · obtain rfl : j = (L3).length := by omega
                    have hS2 := hSk.below hb2
                    have hbe := hbk.trans (hb2.mono hbk.size)
                    have hkhead : 0 < (L3).length → ∃ kblk koff e0, KA = some ⟨kblk, koff, none⟩ ∧ e0 ∈ (L3) ∧ kblk < wr.heap.size ∧ wr.cell? ⟨kblk, koff, none⟩ = some (.string e0.key) := fun h0 => by
                      obtain ⟨kblk, koff, hKA, hkl, hkc⟩ := kat (by rw [List.length_map]; omega)
                      have h1 := hkc 0 (by rw [List.length_map]; omega)
                      rw [List.getElem_map, Nat.add_zero] at h1
                      exact ⟨kblk, koff, (L3)[0], hKA, List.getElem_mem h0, Nat.lt_of_lt_of_le hkl hb2.size, (hb2.cell (p := ⟨kblk, koff, none⟩) hkl).trans h1⟩
                    clear hSk hbk hb2 kat
                    go_wp2
                    generalize wr = wz at *
                    go_loopw [18] (fun nv wr3 => ∃ n' : Nat, nv = .int .i64 n' ∧ n' ≤ i + 1 ∧ Below wz.heap.size wz wr3) (fun nv _ => i + 1 - (intOf nv).toNat)
                    case atStart => exact ⟨0, rfl, by omega, Below.refl _ _⟩
                    case round =>
                      obtain ⟨n', rfl, hn', hb3⟩ := hrel
                      by_cases hgo : n' ≤ i ∧ 0 < (L3).length
                      · obtain ⟨hg1, hg2⟩ := hgo
                        obtain ⟨kblk, koff, e0, hKA, he0, hkl, hk0⟩ := hkhead hg2
                        subst hKA
                        obtain ⟨_, p1, _, _, hpk, _⟩ := hcell n' (by omega)
                        have p1 := ((hbe.trans (hb3.mono hbe.size)).cell (p := ⟨b, off + (n' * 3 + 1), none⟩) hbl).trans p1
                        rw [← Nat.add_assoc] at p1
                        have hpb : b < wr.heap.size := Nat.lt_of_lt_of_le hbl (hbe.trans (hb3.mono hbe.size)).size
                        have hk3 := (hb3.cell (p := ⟨kblk, koff, none⟩) hkl).trans hk0
                        have hpm : ops[n'].key.size ≤ maxLen := by unfold maxLen; omega
                        have hP := Peek_is (hS2.ca.below hb3) ops[n'].key hpm
                        have hgA : Hid (n' ≤ i) := hid hg1
                        have hg1I : (n' : Int) ≤ (i : Int) := by omega
                        have hg2I : (0 : Int) < ((L3).length : Int) := by omega
                        have hnI : (n' : Int) < (ops.length : Int) := by omega
                        have hsm := hS2.ca.sh.small he0
                        have hlk : ∀ w5, Below wr.heap.size wr w5 → ∀ nq, (Instr.lookup 51 (.map (some m2)) (.string ops[n'].key) false).run Try.prog (w5.drewN nq) = .ok (.int .i64 (used3 ops[n'].key : Nat)) (w5.drewN nq) ∧ (Instr.lookup 51 (.map (some m2)) (.string e0.key) false).run Try.prog (w5.drewN nq) = .ok (.int .i64 (used3 e0.key : Nat)) (w5.drewN nq) := fun w5 b5 nq => by
                          have s5 := ((hS2.below hb3).below b5).below (below_drewN w5 nq)
                          exact ⟨s5.m2.look _ hpm, s5.m2.look _ (by unfold maxLen; omega)⟩
                        have hout : isIn ops[n'].key (L3) = false → decide (used3 e0.key < used3 ops[n'].key) = false := fun h0 => decide_eq_false (by have := hI2.out _ h0 e0 he0; omega)
                        clear hpm hsm hk0
                        generalize ops[n'].key = kp at *
                        generalize used3 kp = up at *
                        generalize used3 e0.key = ue at *
                        generalize e0.key = ke at *
                        cases hin' : isIn kp (L3) with
                        | true =>
                          rw [hin'] at hP
                          clear hin' hout
                          go_wp2_with (go_at_call 13; refine hP.mono ?_; rintro e w5 ⟨u5, rfl, o5, b5⟩; clear hlk o5)
                          go_quiet (fail)
                          go_wp2
                          go_roundw
                          case rel => exact ⟨n' + 1, by go_num, by have := hgA.out; omega, hb3.trans ((b5.mono hb3.size).trans (Below.mono (below_drewN _ _) (Nat.le_trans hb3.size b5.size)))⟩
                          case measure => have := hgA.out; simp [intOf]; omega
                        | false =>
                          rw [hin'] at hP
                          have hdl := hout hin'
                          clear hin' hout
                          go_wp2_with (go_at_call 13; refine hP.mono ?_; rintro e w5 ⟨u5, rfl, o5, b5⟩; have lk1 := fun nq => (hlk w5 b5 nq).1; have lk2 := fun nq => (hlk w5 b5 nq).2; have p5 := (b5.cell (p := ⟨b, off + n' * 3 + 1, none⟩) hpb).trans p1; have k5 := (b5.cell (p := ⟨kblk, koff, none⟩) (Nat.lt_of_lt_of_le hkl hb3.size)).trans hk3; clear hlk o5)
                          go_quiet (fail)
                          go_wp2
                          go_roundw
                          case rel => exact ⟨n' + 1, by go_num, by have := hgA.out; omega, hb3.trans ((b5.mono hb3.size).trans (Below.mono (below_drewN _ _) (Nat.le_trans hb3.size b5.size)))⟩
                          case measure => have := hgA.out; simp [intOf]; omega
                      · have hSe := hS2.below hb3
                        have hbee := hbe.trans (hb3.mono hbe.size)
                        by_cases hg1 : n' ≤ i
                        · have hg1I : (n' : Int) ≤ (i : Int) := by omega
                          have hL0 : (L3).length = 0 := by omega
                          go_wp2
                          go_roundw
                          case rel => exact ⟨i + 1, hi, mi, L3, n + 1, last, used3, by go_num, by omega, by omega, hSe, hI2, hbee⟩
                          case measure => simp [intOf]; omega
                        · have hg1I : decide ((n' : Int) ≤ (i : Int)) = false := decide_eq_false (by omega)
                          go_wp2
                          go_roundw
                          case rel => exact ⟨i + 1, hi, mi, L3, n + 1, last, used3, by go_num, by omega, by omega, hSe, hI2, hbee⟩
                          case measure => simp [intOf]; omega
            · have e0 : (kd == 0) = false := by simpa using k0
              have e1 : (kd == 1) = false := by simpa using k1
              have e3 : (kd == 3) = false := by simpa using k3
              have hS := hS1
              have hbt := hb1
              have hI2 := hI.same
              obtain ⟨z0, z1, z2⟩ := hbx.cells
              clear hS0 hS0c hS1 hb0 hbx hrd1 huF ha
              as_aux_lemma =>
                have hCs := hS.ca
                have hTailM : ((L).map (·.key)).Nodup := hCs.sh.ks
                have hlen := hCs.sh.len
                go_wp2_with (go_at_call 18; refine (Keys_is hCs).mono ?_; rintro e wk ⟨ku, rfl, ko, kb⟩; obtain ⟨KA, kc, rfl, _⟩ := ko.rd.form)
                have hSk := hS.below kb
                have hbk := hbt.trans (kb.mono hbt.size)
                have kat := KS.at ko.rd
                clear hS hCs kb ko
                go_loopw [14, 15] (fun tv nv wr2 => ∃ j : Nat, nv = .int .i64 j ∧ j ≤ (L).length ∧ tv = .int .i64 (ol used (L) j : Nat) ∧ Below wk.heap.size wk wr2) (fun _ nv _ => (L).length - (intOf nv).toNat)
                case atStart => exact ⟨0, rfl, Nat.zero_le _, rfl, Below.refl _ _⟩
                case round =>
                  obtain ⟨j, rfl, hj, rfl, hb2⟩ := hrel
                  by_cases hjl : j < (L).length
                  · obtain ⟨kblk, koff, hKA, hkl, hkc⟩ := kat (by rw [List.length_map]; omega)
                    subst hKA
                    have hkj := hkc j (by rw [List.length_map]; exact hjl)
                    rw [List.getElem_map] at hkj
                    have y0 := (hb2.cell (p := ⟨kblk, koff + j, none⟩) hkl).trans hkj
                    have hsm := hSk.ca.sh.small (List.getElem_mem hjl)
                    have hkm : (L)[j].key.size ≤ maxLen := by unfold maxLen; omega
                    have hP := Peek_is (hSk.ca.below hb2) (L)[j].key hkm
                    rw [isIn_mem (List.getElem_mem hjl), valC_mem hTailM (List.getElem_mem hjl)] at hP
                    have hlk : ∀ w5, Below wr.heap.size wr w5 → ∀ nq, (Instr.lookup 50 (.map (some m1)) (.string (L)[j].key) false).run Try.prog (w5.drewN nq) = .ok (.string (str (L)[j].val)) (w5.drewN nq) ∧ (Instr.lookup 51 (.map (some m2)) (.string (L)[j].key) false).run Try.prog (w5.drewN nq) = .ok (.int .i64 (used (L)[j].key : Nat)) (w5.drewN nq) := fun w5 b5 nq => by
                      have s5 := ((hSk.below hb2).below b5).below (below_drewN w5 nq)
                      have e1 := s5.m1.look (L)[j].key hkm
                      rw [hI2.va _ (List.getElem_mem hjl)] at e1
                      exact ⟨e1, s5.m2.look (L)[j].key hkm⟩
                    have hcv : ∀ w5 u5, Own w5 wr.heap.size u5 (L)[j].val → ∀ nq, (convert 32 9 u5).run Try.prog (w5.drewN nq) = .ok (.string (str (L)[j].val)) (w5.drewN nq) := fun w5 u5 o5 nq => conv_rd std (show Rd (w5.drewN nq) u5 (L)[j].val from o5.rd)
                    have hol := ol_lt hI2 hjl
                    have hos := hid (ol_succ (used := used) hjl)
                    have hud := hI2.bd (L)[j].key
                    have hjA : Hid (j < (L).length) := hid hjl
                    have hjI : (j : Int) < ((L).length : Int) := by omega
                    clear hkc hkj hsm hkm
                    generalize ol used (L) j = oj at *
                    generalize used (L)[j].key = uj at *
                    generalize (L)[j].key = kj at *
                    generalize (L)[j].val = vj at *
                    have hdl : decide (uj ≤ oj) = false := decide_eq_false (by omega)
                    have hrefl : (str vj).toList == (str vj).toList := by simp
                    go_wp2_with (go_at_call 13; refine hP.mono ?_; rintro e w5 ⟨u5, rfl, o5, b5⟩; have cv := hcv w5 u5 o5; obtain ⟨A5, c5, rfl, _⟩ := id o5.rd; have y5 := (b5.cell (p := ⟨kblk, koff + j, none⟩) (Nat.lt_of_lt_of_le hkl hb2.size)).trans y0; have lk1 := fun nq => (hlk w5 b5 nq).1; have lk2 := fun nq => (hlk w5 b5 nq).2; clear hlk hcv o5)
                    by_cases hj0 : j = 0
                    · have hjd : ((j : Int) == 0) = true := by simp [hj0]
                      clear hj0
                      go_quiet (fail)
                      go_wp2
                      go_roundw
                      case rel => exact ⟨j + 1, by go_num, by have := hjA.out; omega, by rw [hos.out], hb2.trans ((b5.mono hb2.size).trans (Below.mono (below_drewN _ _) (Nat.le_trans hb2.size b5.size)))⟩
                      case measure => have := hjA.out; simp [intOf]; omega
                    · have hjd : ((j : Int) == 0) = false := by simpa using hj0
                      clear hj0
                      go_quiet (fail)
                      go_wp2
                      go_roundw
                      case rel => exact ⟨j + 1, by go_num, by have := hjA.out; omega, by rw [hos.out], hb2.trans ((b5.mono hb2.size).trans (Below.mono (below_drewN _ _) (Nat.le_trans hb2.size b5.size)))⟩
                      case measure => have := hjA.out; simp [intOf]; omega
                  · obtain rfl : j = (L).length := by omega
                    have hS2 := hSk.below hb2
                    have hbe := hbk.trans (hb2.mono hbk.size)
                    have hkhead : 0 < (L).length → ∃ kblk koff e0, KA = some ⟨kblk, koff, none⟩ ∧ e0 ∈ (L) ∧ kblk < wr.heap.size ∧ wr.cell? ⟨kblk, koff, none⟩ = some (.string e0.key) := fun h0 => by
                      obtain ⟨kblk, koff, hKA, hkl, hkc⟩ := kat (by rw [List.length_map]; omega)
                      have h1 := hkc 0 (by rw [List.length_map]; omega)
                      rw [List.getElem_map, Nat.add_zero] at h1
                      exact ⟨kblk, koff, (L)[0], hKA, List.getElem_mem h0, Nat.lt_of_lt_of_le hkl hb2.size, (hb2.cell (p := ⟨kblk, koff, none⟩) hkl).trans h1⟩
                    clear hSk hbk hb2 kat
                    go_wp2
                    generalize wr = wz at *
                    go_loopw [18] (fun nv wr3 => ∃ n' : Nat, nv = .int .i64 n' ∧ n' ≤ i + 1 ∧ Below wz.heap.size wz wr3) (fun nv _ => i + 1 - (intOf nv).toNat)
                    case atStart => exact ⟨0, rfl, by omega, Below.refl _ _⟩
                    case round =>
                      obtain ⟨n', rfl, hn', hb3⟩ := hrel
                      by_cases hgo : n' ≤ i ∧ 0 < (L).length
                      · obtain ⟨hg1, hg2⟩ := hgo
                        obtain ⟨kblk, koff, e0, hKA, he0, hkl, hk0⟩ := hkhead hg2
                        subst hKA
                        obtain ⟨_, p1, _, _, hpk, _⟩ := hcell n' (by omega)
                        have p1 := ((hbe.trans (hb3.mono hbe.size)).cell (p := ⟨b, off + (n' * 3 + 1), none⟩) hbl).trans p1
                        rw [← Nat.add_assoc] at p1
                        have hpb : b < wr.heap.size := Nat.lt_of_lt_of_le hbl (hbe.trans (hb3.mono hbe.size)).size
                        have hk3 := (hb3.cell (p := ⟨kblk, koff, none⟩) hkl).trans hk0
                        have hpm : ops[n'].key.size ≤ maxLen := by unfold maxLen; omega
                        have hP := Peek_is (hS2.ca.below hb3) ops[n'].key hpm
                        have hgA : Hid (n' ≤ i) := hid hg1
                        have hg1I : (n' : Int) ≤ (i : Int) := by omega
                        have hg2I : (0 : Int) < ((L).length : Int) := by omega
                        have hnI : (n' : Int) < (ops.length : Int) := by omega
                        have hsm := hS2.ca.sh.small he0
                        have hlk : ∀ w5, Below wr.heap.size wr w5 → ∀ nq, (Instr.lookup 51 (.map (some m2)) (.string ops[n'].key) false).run Try.prog (w5.drewN nq) = .ok (.int .i64 (used ops[n'].key : Nat)) (w5.drewN nq) ∧ (Instr.lookup 51 (.map (some m2)) (.string e0.key) false).run Try.prog (w5.drewN nq) = .ok (.int .i64 (used e0.key : Nat)) (w5.drewN nq) := fun w5 b5 nq => by
                          have s5 := ((hS2.below hb3).below b5).below (below_drewN w5 nq)
                          exact ⟨s5.m2.look _ hpm, s5.m2.look _ (by unfold maxLen; omega)⟩
                        have hout : isIn ops[n'].key (L) = false → decide (used e0.key < used ops[n'].key) = false := fun h0 => decide_eq_false (by have := hI2.out _ h0 e0 he0; omega)
                        clear hpm hsm hk0
                        generalize ops[n'].key = kp at *
                        generalize used kp = up at *
                        generalize used e0.key = ue at *
                        generalize e0.key = ke at *
                        cases hin' : isIn kp (L) with
                        | true =>
                          rw [hin'] at hP
                          clear hin' hout
                          go_wp2_with (go_at_call 13; refine hP.mono ?_; rintro e w5 ⟨u5, rfl, o5, b5⟩; clear hlk o5)
                          go_quiet (fail)
                          go_wp2
                          go_roundw
                          case rel => exact ⟨n' + 1, by go_num, by have := hgA.out; omega, hb3.trans ((b5.mono hb3.size).trans (Below.mono (below_drewN _ _) (Nat.le_trans hb3.size b5.size)))⟩
                          case measure => have := hgA.out; simp [intOf]; omega
                        | false =>
                          rw [hin'] at hP
                          have hdl := hout hin'
                          clear hin' hout
                          go_wp2_with (go_at_call 13; refine hP.mono ?_; rintro e w5 ⟨u5, rfl, o5, b5⟩; have lk1 := fun nq => (hlk w5 b5 nq).1; have lk2 := fun nq => (hlk w5 b5 nq).2; have p5 := (b5.cell (p := ⟨b, off + n' * 3 + 1, none⟩) hpb).trans p1; have k5 := (b5.cell (p := ⟨kblk, koff, none⟩) (Nat.lt_of_lt_of_le hkl hb3.size)).trans hk3; clear hlk o5)
                          go_quiet (fail)
                          go_wp2
                          go_roundw
                          case rel => exact ⟨n' + 1, by go_num, by have := hgA.out; omega, hb3.trans ((b5.mono hb3.size).trans (Below.mono (below_drewN _ _) (Nat.le_trans hb3.size b5.size)))⟩
                          case measure => have := hgA.out; simp [intOf]; omega
                      · have hSe := hS2.below hb3
                        have hbee := hbe.trans (hb3.mono hbe.size)
                        by_cases hg1 : n' ≤ i
                        · have hg1I : (n' : Int) ≤ (i : Int) := by omega
                          have hL0 : (L).length = 0 := by omega
                          go_wp2
                          go_roundw
                          case rel => exact ⟨i + 1, hi, mi, L, n, last, used, by go_num, by omega, by omega, hSe, hI2, hbee⟩
                          case measure => simp [intOf]; omega
                        · have hg1I : decide ((n' : Int) ≤ (i : Int)) = false := decide_eq_false (by omega)
                          go_wp2
                          go_roundw
                          case rel => exact ⟨i + 1, hi, mi, L, n, last, used, by go_num, by omega, by omega, hSe, hI2, hbee⟩
                          case measure => simp [intOf]; omega
      · have hi3I : decide ((i : Int) < 300) = false := decide_eq_false (by omega)
        go_wp2
        go_ret
        exact ⟨rfl, hb0⟩
    · obtain rfl : i = ops.length := by omega
      go_wp2
      go_ret
      exact ⟨rfl, hb0⟩
end Go.Proofs.Ytflhgoecmcfkkaa
