/-
  The law MergeNext, walked. Conditions: the arguments can be read; sizes as each theorem names.
-/
import Derived.Test.YtbebhcdnnfgchaaMnv
namespace Go.Icz
open Go.RowKit
/-- Blocks of entries from B on, ahead of C. -/
def isEnt (w : World) (B C k : Nat) : Prop := B ≤ k ∧ k < C ∧ ∃ cur, w.heap[k]? = some (.cells cur 33 (0, 0))
/-- What has turned are such entries. -/
structure ET (B C : Nat) (w w' : World) : Prop where
  tch : Tch (isEnt w B C) w w'
  keep : ∀ k cur, isEnt w B C k → w.heap[k]? = some (.cells cur 33 (0, 0)) → ∃ cur', w'.heap[k]? = some (.cells cur' 33 (0, 0)) ∧ cur'.size = cur.size
theorem ET.refl (B C : Nat) (w : World) : ET B C w w := ⟨Tch.refl _ w, fun _ cur _ h => ⟨cur, h, rfl⟩⟩
theorem ET.set {B C : Nat} {w w' : World} (h : ET B C w w') {g : Nat} (hg : isEnt w B C g) (i : Nat) (u : Value) : ET B C w (w'.setCell ⟨g, i, none⟩ u) := by
  refine ⟨h.tch.trans' (Tch.set (· = g) w' ⟨g, i, none⟩ u rfl) (fun k e => by rw [e]; exact hg), fun k cur hB hk => ?_⟩
  obtain ⟨cur', hc, hs⟩ := h.keep k cur hB hk
  by_cases e : k = g
  · subst e
    exact ⟨_, row_set hc u, by simpa using hs⟩
  · exact ⟨cur', row_far hc u e, hs⟩
end Go.Icz
namespace Go.Proofs.Ytbebhcdnnfgchaa
open Go.RowKit Go.Icz Go.Maps
set_option maxRecDepth 100000 in
theorem Spoil0_is (A : Option Addr) (c : Nat) (w : World) : Calls Try.prog 15 #[.slice A 0 c] w fun e w' => e = .returned (.tuple #[]) ∧ w = w' := by
  go_enter Try.func15, Try.ntmps15
  go_wp2
  go_loopw [2] (fun iv wr => iv = .int .i64 0 ∧ w = wr) (fun _ _ => 0)
  case atStart => exact ⟨rfl, rfl⟩
  case round =>
    obtain ⟨rfl, rfl⟩ := hrel
    go_wp2
    go_end0
    exact ⟨rfl, rfl⟩
set_option maxRecDepth 100000 in
set_option maxHeartbeats 8000000 in
theorem next_walk (v : Value) (nb : Bool) (calls : Int) (R : List SR) (W : World) (hR : RdR W v R) (hz : SzR R) (hm : wfI calls) :
    Calls Try.prog 3 #[v, .bool nb, .int .i64 calls] W fun e w' => e = .returned (.bool true) ∧ Below W.heap.size W w' := by
  have hwf := hid hR.wf
  have D1 := LRows_is v R W hR hz
  have C2 := hid (fun u (R1 : List SR) B w (h : OwR w B u R1) (e : bare R1 = bare R) => GNew_is u nb R1 w (h.rd (by rw [e]; exact hR.wf)) (hz.of_bare e))
  have C3 := hid (fun w (hb : Below W.heap.size W w) => RNew_is v nb R w (hR.below hb) hz)
  have HRD := hid hR.2
  have HZ := hid hz
  obtain ⟨A0, c0, hv, _⟩ := hR.1.form
  subst hv
  clear hR hz
  have hwm : -9223372036854775808 ≤ calls ∧ calls ≤ 9223372036854775807 := by
    unfold wfI at hm
    have e1 : IntKind.i64.min = -9223372036854775808 := by decide
    have e2 : IntKind.i64.max = 9223372036854775807 := by decide
    simp only [Lit.wf, e1, e2] at hm
    simpa using hm
  clear hm
  go_enter Try.func3, Try.ntmps3
  go_wp2_with (first
    | (go_at_call 11; refine D1.mono ?_; rintro e w1 ⟨u1, R1, rfl, o1, hr1, b1⟩; have HR1 := hid hr1; have D2 := C2.out u1 R1 _ w1 o1 hr1; clear D1 hr1; obtain ⟨A1, c1, rfl, _⟩ := o1.1.rd.form)
    | (go_at_call 12; refine D2.mono ?_; rintro e w2 ⟨W2, R2, q, m, rfl, o2, hr2, hz2, n2, b2⟩; have HR2 := hid hr2; have HZ2 := hid hz2; clear hr2 hz2 D2; have b12 := b2.trans (n2.bel.mono b2.size); have bw2 := b1.trans (b12.mono b1.size); have D3 := C3.out w2 bw2)
    | (go_at_call 13; refine D3.mono ?_; rintro e w3 ⟨q', m', vr, rfl, r3, b3⟩; clear D3)
    | (go_at_call 14; refine (knows_is _).mono ?_; rintro e w4 ⟨rfl, b4⟩))
  have b24 := b3.trans (b4.mono b3.size)
  have b14 := b12.trans (b24.mono b12.size)
  have bw4 := b1.trans (b14.mono b1.size)
  have X4 := o1.below b14
  have hlR : R1.length = R.length := by have := congrArg List.length HR1.out; simpa [bare] using this
  have hl1 : R1.length ≤ 1099511627776 := by have := HZ.out.1; omega
  have HLR := hid hlR
  have HSZ : Hid (∀ r ∈ R1, r.l.length ≤ 1099511627776) := hid (fun r hr => (HZ.out.of_bare HR1.out).one hr)
  clear hlR
  have w14 : w1.heap.size ≤ w4.heap.size := b14.size
  have ENT : ∀ r ∈ R1, r.l = [] ∨ ∃ (g : Nat) (cur : Array Value), r.A = some ⟨g, 0, none⟩ ∧ isEnt w4 W.heap.size w1.heap.size g ∧ w4.heap[g]? = some (.cells cur 33 (0, 0)) ∧ r.l.length * 4 ≤ cur.size := by
    intro r hr
    have h1 := (o1.2 r hr).1
    have h4 := h1.below b14
    have hlt := h1.lt
    rcases h4.2 with ⟨_, hn⟩ | ⟨g, cap, cur, hv, hg, hh, hnc, _, hcs, _⟩
    · exact .inl (List.eq_nil_of_length_eq_zero hn)
    · injection hv with e1 e2 e3
      have hl := hlt g (by rw [e1]; rfl)
      have hcs2 : cur.size = cap * 4 := hcs
      exact .inr ⟨g, cur, e1, ⟨hg, hl.2, cur, hh⟩, hh, by omega⟩
  have CEL : ∀ (i : Nat) (hi : i < R1.length), ∃ b off, A1 = some ⟨b, off, none⟩ ∧ ∀ wr, ET W.heap.size w1.heap.size w4 wr → wr.cell? ⟨b, off + i, none⟩ = some (.slice (R1[i]).A (R1[i]).l.length (R1[i]).c) := by
    intro i hi
    obtain ⟨b, off, hA, hb, hc⟩ := X4.1.rd.at hi
    have q0 : w4.cell? ⟨b, off + i, none⟩ = some (.slice R1[i].A R1[i].l.length R1[i].c) := by
      have : w4.cell? ⟨b, off + (i * 1 + 0), none⟩ = some (.slice R1[i].A R1[i].l.length R1[i].c) := hc 0 _ (by decide) rfl
      rwa [Nat.mul_one, Nat.add_zero] at this
    refine ⟨b, off, hA, fun wr hw => (hw.tch.cell hb (fun hl => ?_)).trans q0⟩
    obtain ⟨_, _, cur', hc'⟩ := hl
    rcases X4.1.2 with ⟨hv, _⟩ | ⟨g, cap, cur, hv, _, hh, _⟩
    · injection hv with e1
      rw [hA] at e1
      cases e1
    · injection hv with e1
      rw [hA] at e1
      injection e1 with e1
      injection e1 with e1
      rw [e1, hh] at hc'
      injection hc' with hc'
      injection hc' with _ h2 _
      exact absurd h2 (by decide)
  have ENT := hid ENT
  have CEL := hid CEL
  have O1 := hid o1
  clear X4 o1
  go_loopw [10] (fun iv wr => ∃ i : Nat, iv = .int .i64 i ∧ i ≤ R1.length ∧ ET W.heap.size w1.heap.size w4 wr) (fun iv _ => R1.length - (intOf iv).toNat)
  case atStart => exact ⟨0, rfl, by omega, ET.refl _ _ _⟩
  case round =>
    obtain ⟨i, rfl, hi, hw⟩ := hrel
    by_cases hLt : i < R1.length
    · obtain ⟨b, off, hA, hc⟩ := CEL.out i hLt
      have hE := ENT.out _ (List.getElem_mem hLt)
      have hrl := HSZ.out _ (List.getElem_mem hLt)
      subst hA
      have hil : (i : Int) < (R1.length : Int) := by omega
      have HI := hid hLt
      clear CEL
      generalize R1[i] = r at *
      obtain ⟨rA, rc, rl⟩ := r
      simp only at hc hE hrl
      have c1 := hc _ hw
      have HC := hid hc
      clear hc
      go_wp2_with (go_at_call 15; refine (Spoil0_is _ _ _).mono ?_; rintro e w5 ⟨rfl, rfl⟩)
      go_loopw [11] (fun kv ws => ∃ k : Nat, kv = .int .i64 k ∧ k ≤ rl.length ∧ ET W.heap.size w1.heap.size w4 ws) (fun kv _ => rl.length - (intOf kv).toNat)
      case atStart => exact ⟨0, rfl, by omega, hw⟩
      case round =>
        obtain ⟨k, rfl, hk, hw2⟩ := hrel
        have c2 := HC.out _ hw2
        by_cases hkl : k < rl.length
        · rcases hE with hE | ⟨g, cur, hA, hIs, hh, hcs⟩
          · rw [hE] at hkl; simp at hkl
          · subst hA
            have hkI : (k : Int) < (rl.length : Int) := by omega
            have hstore : ∃ u, wr.cell? ⟨g, k * 4, none⟩ = some u ∧ wr.frozen? ⟨g, k * 4, none⟩ = false := by
              obtain ⟨cur2, hc2, hs2⟩ := hw2.keep g cur hIs hh
              have hlt : k * 4 < cur2.size := by omega
              exact ⟨_, held_cell hc2 (Array.getElem?_eq_getElem hlt), held_frozen hc2⟩
            obtain ⟨u, hu, hfz⟩ := hstore
            have HK := hid hkl
            have hw3 := fun u' => hw2.set hIs (k * 4) u'
            go_wp2
            go_roundw
            case rel => exact ⟨k + 1, by go_num, HK.out, hw3 _⟩
            case measure => have := HK.out; simp [intOf]; omega
        · have hke : ¬ (k : Int) < (rl.length : Int) := by omega
          go_wp2
          go_roundw
          case rel => exact ⟨i + 1, by go_num, HI.out, hw2⟩
          case measure => have := HI.out; simp [intOf]; omega
    · have hnI : ¬ (i : Int) < (R1.length : Int) := by omega
      have hbw : Below W.heap.size W wr := Tch.below bw4 hw.tch (fun j hj => hj.1) bw4.size
      obtain ⟨W3, hW3, I5⟩ := n2.shift o2 (by rw [HR2.out, HR1.out]; exact hwf.out) HZ2.out ((Tch.of_below b24).trans hw.tch) (fun k hk => hk.2.1) b2.size
      have hreW : ∀ k, RE q' m' vr k → w2.heap.size ≤ k := RE.lo r3
      have hw12 : w1.heap.size ≤ w2.heap.size := b12.size
      have J5 := r3.rebase ((Tch.of_below b4).trans hw.tch) (fun k hk hr => by have h1 := hreW k hr; have h2 := hk.2.1; omega) hbw bw2.size HRD.out
      have hqR : ¬ RE q' m' vr q := fun hr => by
        obtain ⟨_, _, h1, _⟩ := n2.ex
        have h2 := row_lt h1
        have h3 := hreW q hr
        omega
      have hmR : ¬ RE q' m' vr m := fun hr => by have h2 := n2.mp.lt; have h3 := hreW m hr; omega
      have hloR : ∀ k, RE q' m' vr k → W3.heap.size ≤ k := fun k hk => by have h3 := hreW k hk; have h4 := n2.bel.size; omega
      have hW03 : W.heap.size ≤ W3.heap.size := by have h1 := b1.size; have h2 := b2.size; omega
      have hS0 : (strm kyV nb (rowsOf R2)).map (·.1) = (strm kyV nb (rowsOf R)).map (·.1) := by rw [strm_bare, strm_bare, HR2.out, HR1.out]
      have HS0 := hid hS0
      have nn := nn_bd calls
      clear hS0 n2 o2 r3 hw hreW b3 b4 b24 b14 bw4 ENT CEL O1 HSZ hbw HZ2 C2 C3 HRD HZ hwf HLR b1 b2 b12 bw2 hW3 w14 hw12 hl1
      generalize strm kyV nb (rowsOf R2) = S0 at *
      go_wp2
      generalize (wrap64 (calls.tmod 60 + 60)).tmod 60 = cc at *
      obtain ⟨n0, rfl⟩ : ∃ n : Nat, cc = (n : Int) := ⟨cc.toNat, by omega⟩
      have hn0 : n0 ≤ 60 := by omega
      clear nn hwm
      go_loopw [12] (fun jv ws => ∃ (j : Nat) (S : List EV) (SE : List Ent) (met : List Int) (sk : Nat) (L : List SR), jv = .int .i64 j ∧ j ≤ n0 ∧ It W3 ws q m nb S met sk ∧ RIt W ws q' m' vr nb L met sk ∧ Hid (S.map (·.1) = SE ∧ (strm kyV nb (rowsOf L)).map (·.1) = SE)) (fun jv _ => n0 - (intOf jv).toNat)
      case atStart => exact ⟨0, S0, _, [], 0, R, rfl, by omega, I5, J5, hid ⟨HS0.out, rfl⟩⟩
      case round =>
        obtain ⟨j, S, SE, met, sk, L, rfl, hj, hI, hJ, HSE⟩ := hrel
        by_cases hjn : j < n0
        · have N1 := Next_U hI HSE.out.1
          have N2 := fun ww (h : RIt W ww q' m' vr nb L met sk) => RNext_U h HSE.out.2
          generalize ansN (nx kyE met SE).1 = E at *
          generalize isN (nx kyE met SE).1 = ob at *
          generalize resN (nx kyE met SE).1 = SE2 at *
          generalize metN (nx kyE met SE).1 met = met2 at *
          generalize sk + (nx kyE met SE).2 = sk2 at *
          unfold entV at N1 N2
          simp only at N1 N2
          have HJ := hid hjn
          have hjI : (j : Int) < (n0 : Int) := by omega
          have KEEP : ∀ w5 A c S', KLab.Own w5 wr.heap.size (.slice A E.labs.length c) E.labs → Fr (ItE q m) wr w5 → It W3 w5 q m nb S' met2 sk2 → ∀ o, It W3 (w5.alloc o) q m nb S' met2 sk2 ∧ RIt W (w5.alloc o) q' m' vr nb L met sk ∧ KLab.Own (w5.alloc o) wr.heap.size (.slice A E.labs.length c) E.labs ∧ (w5.alloc o).heap[w5.heap.size]? = some o ∧ (∀ k, RE q' m' vr k → k < wr.heap.size) ∧ wr.heap.size ≤ w5.heap.size := by
            intro w5 A c S' ho f hi o
            have hb : Below w5.heap.size w5 (w5.alloc o) := (Below.refl _ w5).alloc (Nat.le_refl _) o
            have hJ5 := hJ.fr f hqR hmR (Below.swap hJ.bel hI.lt.2.2.2 hi.lt.2.2.2 hW03 f.size)
            exact ⟨hi.below hb, hJ5.below hb, ho.below hb, heap_alloc_new w5 o, hJ.reLt, f.size⟩
          have KEEP2 : ∀ wa p A c S' w6 L' A2 c2, It W3 wa q m nb S' met2 sk2 → RIt W wa q' m' vr nb L met sk → KLab.Own wa wr.heap.size (.slice A E.labs.length c) E.labs → wa.heap[p]? = some (.cells #[.int .i64 E.seq, .int .i64 E.time, .slice A E.labs.length c, .string ⟨E.line.toArray⟩] 33 (0, 0)) → wr.heap.size ≤ p → (∀ k, RE q' m' vr k → k < wr.heap.size) → KLab.Rd w6 (.slice A2 E.labs.length c2) E.labs → Tch (RE q' m' vr) wa w6 → RIt W w6 q' m' vr nb L' met2 sk2 → ∀ o, It W3 (w6.alloc o) q m nb S' met2 sk2 ∧ RIt W (w6.alloc o) q' m' vr nb L' met2 sk2 ∧ KLab.Rd (w6.alloc o) (.slice A E.labs.length c) E.labs ∧ KLab.Rd (w6.alloc o) (.slice A2 E.labs.length c2) E.labs ∧ (w6.alloc o).heap[p]? = some (.cells #[.int .i64 E.seq, .int .i64 E.time, .slice A E.labs.length c, .string ⟨E.line.toArray⟩] 33 (0, 0)) ∧ (w6.alloc o).heap[w6.heap.size]? = some o := by
            intro wa p A c S' w6 L' A2 c2 hi hj ho hp hwp hre hr2 t hj6 o
            have hb : Below w6.heap.size w6 (w6.alloc o) := (Below.refl _ w6).alloc (Nat.le_refl _) o
            have hi6 := hi.tchR hj t hqR hmR hloR
            have ho6 := ho.touch t (fun k hk e => by have h1 := hre k hk; have h2 := (ho.lt k e).1; omega)
            exact ⟨hi6.below hb, hj6.below hb, ho6.rd.below hb, hr2.below hb, row_alloc (t.row hp (fun hk => by have := hre p hk; omega)) o, heap_alloc_new w6 o⟩
          clear hI hJ
          go_wp2_with (first
            | (go_at_call 16; refine N1.mono ?_; rintro e w5 ⟨A5, c5, rfl, o5, f5, S5, hS5, i5⟩; have K5 := KEEP _ _ _ _ o5 f5 i5 (.cells #[.int .i64 E.seq, .int .i64 E.time, .slice A5 E.labs.length c5, .string ⟨E.line.toArray⟩] 33); have HS5 := hid hS5; have D2 := N2 _ K5.2.1; clear KEEP N1 o5 f5 i5 hS5 N2)
            | (go_at_call 17; refine D2.mono ?_; rintro e w6 ⟨A6, c6, rfl, r6, hl6, f6, L6, hS6, j6⟩; have K6 := KEEP2 _ _ _ _ _ _ _ _ _ K5.1 K5.2.1 K5.2.2.1 K5.2.2.2.1 K5.2.2.2.2.2 K5.2.2.2.2.1 r6 f6 j6 (.cells #[.int .i64 E.seq, .int .i64 E.time, .slice A6 E.labs.length c6, .string ⟨E.line.toArray⟩] 33); have HS6 := hid hS6; clear KEEP2 D2 r6 f6 j6 hS6 K5))
          obtain ⟨i7, j7, ra, rb, pa, pb⟩ := K6
          generalize w5.heap.size = p5 at *
          generalize w6.heap.size = p6 at *
          generalize (w6.alloc (.cells #[.int .i64 E.seq, .int .i64 E.time, .slice A6 E.labs.length c6, .string ⟨E.line.toArray⟩] 33)) = w7 at *
          have mkS : ∀ w', Below w7.heap.size w7 w' → Below w7.heap.size w7 w' ∧ w'.cell? ⟨p5, 0, none⟩ = some (.int .i64 E.seq) ∧ w'.cell? ⟨p5, 1, none⟩ = some (.int .i64 E.time) ∧ w'.cell? ⟨p5, 2, none⟩ = some (.slice A5 E.labs.length c5) ∧ w'.cell? ⟨p5, 3, none⟩ = some (.string ⟨E.line.toArray⟩) ∧ w'.cell? ⟨p6, 0, none⟩ = some (.int .i64 E.seq) ∧ w'.cell? ⟨p6, 1, none⟩ = some (.int .i64 E.time) ∧ w'.cell? ⟨p6, 2, none⟩ = some (.slice A6 E.labs.length c6) ∧ w'.cell? ⟨p6, 3, none⟩ = some (.string ⟨E.line.toArray⟩) ∧ w'.cell? ⟨q', 3, none⟩ = some (.int .i64 ((sk2 : Nat) : Int)) := fun w' hw => by
            have ga := (hw.block p5 (row_lt pa)).trans pa
            have gb := (hw.block p6 (row_lt pb)).trans pb
            have gc := (hw.block q' (row_lt j7.at_)).trans j7.at_
            exact ⟨hw, held_cell (i := 0) ga rfl, held_cell (i := 1) ga rfl, held_cell (i := 2) ga rfl, held_cell (i := 3) ga rfl, held_cell (i := 0) gb rfl, held_cell (i := 1) gb rfl, held_cell (i := 2) gb rfl, held_cell (i := 3) gb rfl, held_cell (i := 3) gc rfl⟩
          have hSame : ∀ w', Below w7.heap.size w7 w' → Calls Try.prog 18 #[.agg #[.int .i64 E.seq, .int .i64 E.time, .slice A5 E.labs.length c5, .string ⟨E.line.toArray⟩], .agg #[.int .i64 E.seq, .int .i64 E.time, .slice A6 E.labs.length c6, .string ⟨E.line.toArray⟩]] w' fun e w2 => e = .returned (.bool true) ∧ Below w'.heap.size w' w2 := fun w' hw => by
            have h1 := ESame_is (E, A5, c5) (E, A6, c6) w' (ra.below hw) (rb.below hw) (by simp only; omega)
            unfold entV at h1
            rw [show sameE (E, A5, c5).1 (E, A6, c6).1 = true from sameE_iff.2 rfl] at h1
            exact h1
          have hSk := fun w' (hw : Below w7.heap.size w7 w') => Skipped_is (i7.below hw)
          have hk := mkS w7.drew (Below.refl _ _).drew
          have I7 := hid (And.intro i7 j7)
          clear i7 j7 ra rb pa pb
          have hob : (ob != ob) = false := by simp
          go_region_held3 (fun w' => Below w7.heap.size w7 w' ∧ w'.cell? ⟨p5, 0, none⟩ = some (.int .i64 E.seq) ∧ w'.cell? ⟨p5, 1, none⟩ = some (.int .i64 E.time) ∧ w'.cell? ⟨p5, 2, none⟩ = some (.slice A5 E.labs.length c5) ∧ w'.cell? ⟨p5, 3, none⟩ = some (.string ⟨E.line.toArray⟩) ∧ w'.cell? ⟨p6, 0, none⟩ = some (.int .i64 E.seq) ∧ w'.cell? ⟨p6, 1, none⟩ = some (.int .i64 E.time) ∧ w'.cell? ⟨p6, 2, none⟩ = some (.slice A6 E.labs.length c6) ∧ w'.cell? ⟨p6, 3, none⟩ = some (.string ⟨E.line.toArray⟩) ∧ w'.cell? ⟨q', 3, none⟩ = some (.int .i64 ((sk2 : Nat) : Int))) (exact hk)
            (first | (go_at_call 18; refine (hSame _ hk.1).mono ?_; rintro e w8 ⟨rfl, b8⟩; have hk := mkS _ (hk.1.trans (b8.mono hk.1.size))) | (go_at_call 19; refine (hSk _ hk.1).mono ?_; rintro e w8 ⟨rfl, rfl⟩; have hk := mkS _ hk.1))
          go_wp2_with fail
          go_roundw
          case rel => exact ⟨j + 1, S5, SE2, met2, sk2, L6, by go_num, HJ.out, I7.out.1.below hk.1, I7.out.2.below hk.1, hid ⟨HS5.out, HS6.out⟩⟩
          case measure => have := HJ.out; simp [intOf]; omega
        · have hnJ : ¬ (j : Int) < (n0 : Int) := by omega
          have hfin := hJ.bel
          clear hI hJ
          go_wp2
          go_ret
          exact ⟨rfl, hfin⟩
end Go.Proofs.Ytbebhcdnnfgchaa
