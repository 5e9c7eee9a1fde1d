/-
  merge.New, so that the rows of its Iter are known. Conditions: those that each theorem names.
-/
import Derived.Test.YtbebhcdnnfgchaaMalW
namespace Go.Proofs.Ytbebhcdnnfgchaa
open Go.RowKit Go.Icz Go.Maps
/-- What headsOf answers, and whose rows they are. -/
def HeadsOut2 (W0 : World) (nb : Bool) (R : List SR) (e : Ending) (w' : World) : Prop :=
  ∃ vv l, e = .returned (.agg #[vv, .bool nb]) ∧ KRow.Own w' W0.heap.size vv l ∧ HpF (hlt nb) l l.length 0 ∧ ItR l (rowsOf R) ∧ (∀ r ∈ l, r.l ≠ [] ∧ KEnt.Rd W0 (.slice r.A r.l.length r.c) r.l) ∧ l.length ≤ 1099511627776 ∧ Below W0.heap.size W0 w' ∧ ∀ r ∈ l, (⟨r.A, r.c, r.l⟩ : SR) ∈ R
set_option maxRecDepth 100000 in
set_option maxHeartbeats 4000000 in
theorem headsOf2_is (v : Value) (nb : Bool) (R : List SR) (W0 : World) (hR : RdR W0 v R) (hlen : R.length ≤ 1099511627776) :
    Calls Try.prog 42 #[v, .bool nb] W0 (HeadsOut2 W0 nb R) := by
  obtain ⟨A, c, rfl, hc⟩ := hR.1.form
  have b2 : Below W0.heap.size W0 ((W0.alloc (.cells #[.slice none 0 0, .bool false] 48)).alloc (.cells #[.slice none 0 0, .bool nb] 48)) := ((Below.refl _ W0).alloc (Nat.le_refl _) _).alloc (by simp) _
  have r1 : ((W0.alloc (.cells #[.slice none 0 0, .bool false] 48)).alloc (.cells #[.slice none 0 0, .bool nb] 48)).heap[W0.heap.size]? = some (.cells #[.slice none 0 0, .bool false] 48 (0, 0)) := row_alloc (heap_alloc_new W0 _) _
  have r2 : ((W0.alloc (.cells #[.slice none 0 0, .bool false] 48)).alloc (.cells #[.slice none 0 0, .bool nb] 48)).heap[W0.heap.size + 1]? = some (.cells #[.slice none 0 0, .bool nb] 48 (0, 0)) := by
    have := heap_alloc_new (W0.alloc (.cells #[.slice none 0 0, .bool false] 48)) (.cells #[.slice none 0 0, .bool nb] 48)
    rwa [World.size_alloc] at this
  generalize hW2 : (W0.alloc (.cells #[.slice none 0 0, .bool false] 48)).alloc (.cells #[.slice none 0 0, .bool nb] 48) = W2 at *
  have h0 : Hp W0 W2 (W0.heap.size + 1) [] nb (.slice none 0 0) [] := ⟨⟨_, r2, by decide⟩, Kd.Own.nil _ _, by omega, b2, by simp, by simp⟩
  go_enter Try.func42, Try.ntmps42
  go_wp2
  go_loopw [12] (fun iv wr => ∃ (i : Nat) (l : List HR) (vv : Value), iv = .int .i64 i ∧ i ≤ R.length ∧ Hp W0 wr (W0.heap.size + 1) [] nb vv l ∧ Hid (ItR l ((rowsOf R).take i) ∧ l.length ≤ i) ∧ wr.heap[W0.heap.size]? = some (.cells #[.slice none 0 0, .bool false] 48 (0, 0)) ∧ Hid (∀ r ∈ l, (⟨r.A, r.c, r.l⟩ : SR) ∈ R)) (fun iv _ => R.length - (intOf iv).toNat)
  case atStart => exact ⟨0, [], .slice none 0 0, rfl, by omega, h0, hid ⟨ItR.nil, Nat.le_refl _⟩, r1, hid (fun r hr => by cases hr)⟩
  case round =>
    obtain ⟨i, l, vv, rfl, hi, hp, HM, hr, HS⟩ := hrel
    by_cases hLt : i < R.length
    · obtain ⟨b, off, hA, hb, hcell⟩ := hR.1.at hLt
      subst hA
      have hri := hR.2 _ (List.getElem_mem hLt)
      have hlen1 : ((rowsOf R).take i).length = i := by unfold rowsOf; rw [List.length_take, List.length_map]; omega
      have hT := rowsOf_take hLt
      have q0 : wr.cell? ⟨b, off + i, none⟩ = some (.slice R[i].A R[i].l.length R[i].c) := by
        have := (hp.bel.cell (p := ⟨b, off + (i * 1 + 0), none⟩) hb).trans (hcell 0 _ (by decide) rfl)
        rwa [Nat.mul_one, Nat.add_zero] at this
      have HT := hid hT
      have HL1 := hid hlen1
      have HLT := hid hLt
      have hil : (i : Int) < (R.length : Int) := by omega
      clear hcell hT hlen1 hR h0 r1 r2 hW2
      have HMEM : Hid (R[i] ∈ R) := hid (List.getElem_mem hLt)
      generalize R[i] = r at *
      obtain ⟨rA, rc, rl⟩ := r
      simp only at q0 hri
      by_cases he : rl = []
      · subst he
        have FIN : Hid (ItR l ((rowsOf R).take (i + 1)) ∧ l.length ≤ i + 1) := hid ⟨by rw [HT.out]; exact HM.out.1.snocE, by have := HM.out.2; omega⟩
        go_wp2
        go_roundw
        case rel => exact ⟨i + 1, l, vv, by go_num, HLT.out, hp, FIN, hr, HS⟩
        case measure => have := HLT.out; simp [intOf]; omega
      · have hpos : (0 : Int) < (rl.length : Int) := by have := List.length_pos_iff.2 he; omega
        have FIN : Hid (ItR (l ++ [⟨rA, rc, rl, i⟩]) ((rowsOf R).take (i + 1)) ∧ (l ++ [(⟨rA, rc, rl, i⟩ : HR)]).length ≤ i + 1) := hid ⟨by rw [HT.out]; exact HM.out.1.snocR ⟨rA, rc, rl, i⟩ HL1.out.symm, by have := HM.out.2; simp; omega⟩
        have HS5 : Hid (∀ r ∈ l ++ [(⟨rA, rc, rl, i⟩ : HR)], (⟨r.A, r.c, r.l⟩ : SR) ∈ R) := hid (fun r hr => by
          rcases List.mem_append.1 hr with hr | hr
          · exact HS.out r hr
          · rw [List.mem_singleton.1 hr]; exact HMEM.out)
        have c0 := hp.c0
        have hml : l.length ≤ 1099511627776 := by have := HM.out.2; have := HLT.out; omega
        have hml1 : (l ++ [(⟨rA, rc, rl, i⟩ : HR)]).length ≤ 1099511627776 := by have := FIN.out.2; have := HLT.out; omega
        have hq := hp.lt
        have hz := hp.bel.size
        have ba : ∀ o, Below wr.heap.size wr (wr.alloc o) := fun o => (Below.refl _ wr).alloc (Nat.le_refl _) o
        have keep : ∀ (o : Obj) w5, (wr.alloc o).grownBy w5 vv.ownBlock → w5.cell? ⟨W0.heap.size + 1, 0, none⟩ = some vv ∧ w5.frozen? ⟨W0.heap.size + 1, 0, none⟩ = false ∧ w5.heap[W0.heap.size]? = some (.cells #[.slice none 0 0, .bool false] 48 (0, 0)) := by
          intro o w5 hg
          have hne : some (W0.heap.size + 1) ≠ vv.ownBlock := fun e => (hp.apart _ e.symm) rfl
          have e := (hg.block (W0.heap.size + 1) (by simp; omega) hne).trans (heap_alloc_old wr o hq)
          have hne2 : some W0.heap.size ≠ vv.ownBlock := fun e => by
            obtain ⟨cur, z, hc⟩ := hp.isRow e.symm
            rw [hr] at hc
            injection hc with hc
            injection hc with _ h2 _
            exact absurd h2 (by decide)
          exact ⟨(World.cell?_of_block e).trans c0, (World.frozen?_of_block e).trans (hp.f0 0), (hg.block W0.heap.size (by simp; omega) hne2).trans (row_alloc hr o)⟩
        have push : ∀ (o : Obj) w5 v5, KRow.Own w5 W0.heap.size v5 (l ++ [⟨rA, rc, rl, i⟩]) → (wr.alloc o).grownBy w5 vv.ownBlock → Hp W0 (w5.setCell ⟨W0.heap.size + 1, 0, none⟩ v5) (W0.heap.size + 1) [] nb v5 (l ++ [⟨rA, rc, rl, i⟩]) := fun o w5 v5 ho hg => (hp.pushed (ba o) ho hg (fun x hx => by
          rcases List.mem_append.1 hx with hx | hx
          · exact hp.rd x hx
          · obtain rfl := List.mem_singleton.1 hx
            exact ⟨he, hri.1⟩) hml1).1
        have hmx : l.length + 1 ≤ maxLen := by unfold maxLen; omega
        have hby : (l.length + 1) * 32 ≤ 140737488355328 := by omega
        go_wp2_with (at_builtin; refine Kd.wp_app1 (K := KRow) rfl (.tmp 21) (.tmp 25) 46 rfl Try.underlying46 infoR rfl W0.heap.size vv l ⟨rA, rc, rl, i⟩ rfl hp.own rfl rfl rfl hmx hby hz ?_; intro v5 w5 o5 b5 g5 n5; obtain ⟨k0, k1, k2⟩ := keep _ _ g5; have hp5 := push _ _ _ o5 g5; obtain ⟨A5, k5, rfl, _⟩ := o5.rd.form; have hr5 := row_far (c := W0.heap.size + 1) (i := 0) k2 (.slice A5 (l ++ [(⟨rA, rc, rl, i⟩ : HR)]).length k5) (by omega); simp only [List.length_append, List.length_singleton] at hp5 hr5; clear keep push b5 g5 o5)
        go_roundw
        case rel => exact ⟨i + 1, _, _, by go_num, HLT.out, hp5, FIN, hr5, HS5⟩
        case measure => have := HLT.out; simp [intOf]; omega
    · obtain rfl : i = R.length := by omega
      have HI : Hid (ItR l (rowsOf R)) := hid (by have := HM.out.1; rwa [List.take_of_length_le (by unfold rowsOf; rw [List.length_map]; exact Nat.le_refl _)] at this)
      obtain ⟨Av, cv, rfl⟩ := hp.form
      have In := Init_is hp
      generalize hvv : (Value.slice Av l.length cv) = vv at *
      have VV := hid hvv
      clear hvv
      unfold hpI at In
      have m1 : ∀ wx, (Instr.makeInterface 66 (.pointer (some ⟨W0.heap.size + 1, 0, none⟩))).run Try.prog wx = .ok (.iface 66 (.pointer (some ⟨W0.heap.size + 1, 0, none⟩))) wx := fun _ => by kernel_rfl
      have fin : ∀ w6 m, Hp W0 w6 (W0.heap.size + 1) [] nb vv m → m.Perm l → HpF (hlt nb) m l.length 0 → w6.heap[W0.heap.size]? = some (.cells #[.slice none 0 0, .bool false] 48 (0, 0)) → HeadsOut2 W0 nb R (.returned (.agg #[vv, .bool nb])) ((w6.setCell ⟨W0.heap.size, 0, none⟩ vv).setCell ⟨W0.heap.size, 1, none⟩ (.bool nb)) := by
        intro w6 m h6 p6 f6 r6
        have t : Tch (· = W0.heap.size) w6 ((w6.setCell ⟨W0.heap.size, 0, none⟩ vv).setCell ⟨W0.heap.size, 1, none⟩ (.bool nb)) := (Tch.set (· = W0.heap.size) w6 ⟨W0.heap.size, 0, none⟩ vv rfl).trans (Tch.set _ _ ⟨W0.heap.size, 1, none⟩ _ rfl)
        have ne : vv.ownBlock ≠ some W0.heap.size := fun e => by
          obtain ⟨cur, z, hc⟩ := h6.isRow e
          rw [r6] at hc
          injection hc with hc
          injection hc with _ h2 _
          exact absurd h2 (by decide)
        exact ⟨vv, m, rfl, h6.own.touch t (fun j hj => by rw [hj]; exact ne), by rw [p6.length_eq]; exact f6, HI.out.perm p6, h6.rd, h6.len, Tch.below h6.bel t (fun j hj => by omega) h6.bel.size, fun r hr => HS.out r (p6.mem_iff.1 hr)⟩
      have bW := hp.bel.size
      have vv1 := VV.out
      clear VV
      subst vv1
      go_wp2_with (go_at_call 48; go_loud (refine In.mono ?_; rintro e w6 ⟨rfl, m, h6, p6, f6, o6, fr6⟩; have c0 := h6.c0; have c1 := h6.c1; have r6 := fr6.row hr (fun e => by omega) (by decide); have d0 := held_cell (i := 0) r6 rfl; have d1 := held_cell (i := 1) r6 rfl; have e0 := held_frozen (i := 0) r6; have e1 := held_frozen (i := 1) r6; have FN := fin _ _ h6 p6 f6 r6; clear fin In r6))
      exact bodyPost_ret (v := .agg #[.slice Av l.length cv, .bool nb]) (by simp [results, Try.results42, go_sem, *]) rfl FN
/-- An Iter at its beginning over the rows R, which lie in W0. -/
structure NIt (W0 w : World) (q m : Nat) (nb : Bool) (R : List SR) : Prop where
  ex : ∃ vv l, w.heap[q]? = some (.cells #[vv, .bool nb, .map (some m), .int .i64 0] 51 (0, 0)) ∧ KRow.Own w W0.heap.size vv l ∧ HpF (hlt nb) l l.length 0 ∧ ItR l (rowsOf R) ∧ (∀ r ∈ l, r.l ≠ [] ∧ (⟨r.A, r.c, r.l⟩ : SR) ∈ R) ∧ l.length ≤ 1099511627776
  mp : MSet w m []
  lo : W0.heap.size ≤ q ∧ W0.heap.size ≤ m
  bel : Below W0.heap.size W0 w
set_option maxRecDepth 100000 in
set_option maxHeartbeats 2000000 in
theorem over2_is (v : Value) (nb : Bool) (R : List SR) (W0 : World) (hR : RdR W0 v R) (hlen : R.length ≤ 1099511627776) :
    Calls Try.prog 32 #[v, .bool nb] W0 fun e w' => ∃ q m, e = .returned (.pointer (some ⟨q, 0, none⟩)) ∧ NIt W0 w' q m nb R := by
  have hH := headsOf2_is v nb R W0 hR hlen
  have hMM := @run_makeMap Try.prog
  have fin : ∀ vv l w1, KRow.Own w1 W0.heap.size vv l → HpF (hlt nb) l l.length 0 → ItR l (rowsOf R) → (∀ r ∈ l, r.l ≠ [] ∧ KEnt.Rd W0 (.slice r.A r.l.length r.c) r.l) → l.length ≤ 1099511627776 → Below W0.heap.size W0 w1 → (∀ r ∈ l, (⟨r.A, r.c, r.l⟩ : SR) ∈ R) →
      NIt W0 ((w1.alloc (.map #[] 0)).alloc (.cells #[vv, .bool nb, .map (some w1.heap.size), .int .i64 0] 51)) (w1.heap.size + 1) w1.heap.size nb R := by
    intro vv l w1 h1 h2 h3 h4 h5 h6 h7
    have hb : Below w1.heap.size w1 ((w1.alloc (.map #[] 0)).alloc (.cells #[vv, .bool nb, .map (some w1.heap.size), .int .i64 0] 51)) := ((Below.refl _ w1).alloc (Nat.le_refl _) _).alloc (by simp) _
    have hb' := h6.trans (hb.mono h6.size)
    have hr := heap_alloc_new (w1.alloc (.map #[] 0)) (.cells #[vv, .bool nb, .map (some w1.heap.size), .int .i64 0] 51)
    rw [World.size_alloc] at hr
    have hz := h6.size
    exact ⟨⟨vv, l, hr, h1.below hb, h2, h3, fun r hr => ⟨(h4 r hr).1, h7 r hr⟩, h5⟩, (MSet.made w1).touch (Tch.alloc (fun _ => False) _ _) (fun h => h), ⟨by omega, hz⟩, hb'⟩
  go_enter Try.func32, Try.ntmps32
  go_wp2_with (go_at_call 42; refine hH.mono ?_; rintro e w1 ⟨vv, l, rfl, h1, h2, h3, h4, h5, h6, h7⟩; have FN := fin _ _ _ h1 h2 h3 h4 h5 h6 h7; obtain ⟨Av, cv, rfl, _⟩ := h1.rd.form; clear fin h1 h2 h3 h4 h5 h6 h7)
  go_ret
  exact ⟨_, _, rfl, FN⟩
/-- What New answers: an Iter over rows of its own, which lie in W0. -/
def GNewOut (R : List SR) (nb : Bool) (w : World) (e : Ending) (w' : World) : Prop := ∃ W0 R' q m, e = .returned (.pointer (some ⟨q, 0, none⟩)) ∧ (∀ r ∈ R', OwE W0 w.heap.size (.slice r.A r.l.length r.c) r.l) ∧ bare R' = bare R ∧ SzR R' ∧ NIt W0 w' q m nb R' ∧ Below w.heap.size w W0
set_option maxHeartbeats 4000000 in
set_option maxRecDepth 100000 in
theorem GNew_is (v : Value) (nb : Bool) (R : List SR) (w : World) (hR : RdR w v R) (hz : SzR R) :
    Calls Try.prog 12 #[v, .bool nb] w (GNewOut R nb w) := by
  obtain ⟨A, c, rfl, hlc⟩ := hR.1.form
  have hlen := hz.1
  have hwf := hR.wf
  have hzz := hid hz
  have C9 := hid (fun u (R1 : List SR) w1 (h : OwR w1 w.heap.size u R1) (e : bare R1 = bare R) => over2_is u nb R1 w1 (h.rd (by rw [e]; exact hwf)) (by have : R1.length = R.length := by { have := congrArg List.length e; simpa [bare] using this }; omega))
  clear hwf
  go_enter Try.func12, Try.ntmps12
  go_wp2
  go_loopw [5, 10] (fun ov iv wr => ∃ (i : Nat) (M : List SR), iv = .int .i64 i ∧ i ≤ R.length ∧ OwR wr w.heap.size ov M ∧ Hid (bare M = (bare R).take i ∧ M.length = i) ∧ Below w.heap.size w wr) (fun _ iv _ => R.length - (intOf iv).toNat)
  case atStart => exact ⟨0, [], rfl, by omega, ⟨Kd.Own.nil _ _, by simp⟩, hid ⟨by simp [bare], rfl⟩, Below.refl _ _⟩
  case round =>
    obtain ⟨i, M, rfl, hi, ho, HM, hbw⟩ := hrel
    by_cases hLt : i < R.length
    · have HT : Hid ((bare R).take (i + 1) = (bare R).take i ++ [(R[i]).l.map (·.1)]) := hid (by unfold bare; rw [← List.map_take, ← List.map_take, List.take_succ_eq_append_getElem hLt, List.map_append]; rfl)
      have hil : (i : Int) < (R.length : Int) := by omega
      have HIL := hid hLt
      obtain ⟨b, off, hA, hb, hcell⟩ := hR.1.at hLt
      subst hA
      have q0 : wr.cell? ⟨b, off + i, none⟩ = some (.slice R[i].A R[i].l.length R[i].c) := by
        have := (hbw.cell (p := ⟨b, off + (i * 1 + 0), none⟩) hb).trans (hcell 0 _ (by decide) rfl)
        rwa [Nat.mul_one, Nat.add_zero] at this
      have hE := (hR.rdE (List.getElem_mem hLt)).below hbw
      have hsz : SzE R[i].l := ⟨hz.one (List.getElem_mem hLt), fun x hx => ((hR.2 _ (List.getElem_mem hLt)).2 x hx).2.2⟩
      have hml : (M.length + 1) * 24 ≤ 140737488355328 := by have := HM.out.2; omega
      have hmm : M.length + 1 ≤ maxLen := by have := HM.out.2; unfold maxLen; omega
      have hwz := hbw.size
      clear hcell hR hz
      generalize R[i] = r at *
      have hO := copied_is _ r.l wr hE hsz
      go_wp2_with (first
        | (go_at_call 31; refine hO.mono ?_; rintro e w1 ⟨u1, m1, rfl, ol, hm1, b1⟩; have o1 := ho.below b1; have ol1 := ol.mono hwz; have bw1 := hbw.trans (b1.mono hwz); have z1 := bw1.size; obtain ⟨A1, c1, rfl, _⟩ := ol.1.rd.form; have HM1 := hid hm1; clear hO ho ol hm1)
        | (at_builtin; refine Kd.wp_app1 (K := KSl) rfl (.tmp 14) (.tmp 17) 22 rfl Try.underlying22 infoS rfl w.heap.size _ M ⟨A1, c1, m1⟩ rfl o1.1 rfl rfl rfl hmm hml z1 ?_; intro v5 w5 o5 b5 g5 n5))
      have o6 : OwR w5 w.heap.size v5 (M ++ [⟨A1, c1, m1⟩]) := by
        refine ⟨o5, fun q hq => ?_⟩
        have ba : Below w1.heap.size w1 (w1.alloc (.cells #[.slice A1 m1.length c1] 30)) := (Below.refl _ _).alloc (Nat.le_refl _) _
        have hr := o1.1.below ba
        have key : ∀ (u : Value) (l : List EV), OwE w1 w.heap.size u l → OwE w5 w.heap.size u l := fun u l h => ⟨Kd.Own.apart (by decide) (h.1.below ba) hr g5, fun x hx => Kd.Own.apart (by decide) ((h.2 x hx).below ba) hr g5⟩
        rcases List.mem_append.1 hq with hq | hq
        · exact key _ _ (o1.2 q hq)
        · obtain rfl := List.mem_singleton.1 hq
          exact key _ _ ol1
      go_roundw
      case rel => exact ⟨i + 1, M ++ [⟨A1, c1, m1⟩], by go_num, HIL.out, o6, hid ⟨by have h1 := HM.out.1; unfold bare at h1 ⊢; rw [List.map_append, h1]; have h2 := HT.out; unfold bare at h2; rw [h2, ← HM1.out]; rfl, by rw [List.length_append, HM.out.2]; rfl⟩, bw1.trans b5⟩
      case measure => have := HIL.out; simp [intOf]; omega
    · have him : i = R.length := by omega
      have HM2 : Hid (bare M = bare R) := hid (by rw [HM.out.1, him, List.take_of_length_le (by simp [bare])])
      have D9 := C9.out _ M wr ho HM2.out
      obtain ⟨Ao, co, rfl, _⟩ := ho.1.rd.form
      clear HM hLt C9
      go_wp2_with (go_at_call 32; refine D9.mono ?_; rintro e w9 ⟨q, m, rfl, hI⟩; clear D9)
      go_ret
      exact ⟨wr, M, q, m, rfl, fun r hr => ho.2 r hr, HM2.out, hzz.out.of_bare HM2.out, hI, hbw⟩
end Go.Proofs.Ytbebhcdnnfgchaa
