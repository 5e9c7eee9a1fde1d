/-
  What an index tells of a label is in what it tells of its name: the law's walk. Conditions: those that each theorem names.
-/
import Derived.Test.YtnlkipgjacgddaaDoorIxw
import Derived.Test.YtnlkipgjacgddaaDoorSetKnow
namespace Go.Icz
open Go.RowKit
/-- An operation: its kind, its number, its labels. -/
structure OpP where
  kd : Int
  id : Int
  A : Option Addr
  c : Nat
  l : List Lab
/-- The slice v holds these operations. -/
def RdOps (w : World) (v : Value) (l : List OpP) : Prop :=
  ∃ A c, v = .slice A l.length c ∧ (0 < l.length → ∃ b off, A = some ⟨b, off, none⟩ ∧ b < w.heap.size ∧ ∀ j (hj : j < l.length),
    w.cell? ⟨b, off + j * 5, none⟩ = some (.int .i64 l[j].kd) ∧ w.cell? ⟨b, off + j * 5 + 1, none⟩ = some (.int .i64 l[j].id) ∧ w.cell? ⟨b, off + j * 5 + 2, none⟩ = some (.slice l[j].A l[j].l.length l[j].c) ∧ RdL w (.slice l[j].A l[j].l.length l[j].c) l[j].l ∧ (∀ x ∈ l[j].l, x.1.length ≤ 9223372036854775807 ∧ x.2.length ≤ 9223372036854775807) ∧ (Lit.int .i64 l[j].id).wf = true)
end Go.Icz
namespace Go.Proofs.YtnlkipgjacgddaaDoor
open Go.RowKit Go.Maps Go.Icz Go.ChangeMaps Go.MapKept Go.WideShapes Go.Sort
attribute [local go_sem] Oper.semAt_some
set_option maxRecDepth 100000
set_option maxHeartbeats 4000000
theorem Ct.low {T : Nat → Prop} {B : Nat} {w0 w w' : World} (h : Ct T w w') (b : Below B w0 w) (hT : ∀ j, T j → B ≤ j) (hB : B ≤ w.heap.size) : Below B w0 w' :=
  ⟨h.os.trans b.os, h.tape.trans b.tape, h.output.trans b.output, Nat.le_trans b.size h.size, fun k hk => (h.block k (by omega) (fun t => absurd (hT k t) (by omega))).trans (b.block k hk)⟩
theorem Ix.dom {T : Nat → Prop} {w : World} {v : Value} {n : Nat} {M : Int → Option (List Lab)} (h : Ix T w v n M) : ∃ K : List Int, K.length ≤ 65536 ∧ ∀ k, M k ≠ none → k ∈ K := by
  obtain ⟨b0, b1, D0, N, V, D1, h⟩ := h
  refine ⟨intKeys D0, ?_, fun x hx => ?_⟩
  · have hf := h.few
    obtain ⟨es', hD', _⟩ := h.dom.keysOf
    subst hD'
    simpa [intKeys, Maps.size] using hf
  · cases hc : M x with
    | none => exact absurd hc hx
    | some l =>
      have hh := (h.lab.1 x (h.lab.2 x l hc).1).2 (by rw [hc]; simp)
      obtain ⟨es, hD, _, _⟩ := h.dom.entries (int_keyed Tryd.underlying3)
      obtain ⟨es', hD', hko⟩ := h.dom.keysOf
      obtain rfl : es = es' := by rw [hD] at hD'; simpa using hD'
      subst hD
      rw [has_eq, List.any_eq_true] at hh
      obtain ⟨p, hp, hs⟩ := hh
      obtain ⟨v2, hv2⟩ := hko p hp
      obtain ⟨y, _, hy, _⟩ := Maps.keyOf_i64 Tryd.underlying3 hv2
      show x ∈ es.map fun p => Go.intOf p.1
      rw [List.mem_map]
      exact ⟨p, hp, by rw [hy] at hs ⊢; simpa [Lit.sameKey, Go.intOf, eq_comm] using hs⟩
theorem own_walk (v : Value) (l : List OpP) (nm : List UInt8) (W : World) (h0 : RdOps W v l) (hl : l.length ≤ 1048576) (hT : Tabs W) (hnm : nm.length ≤ 9223372036854775807) :
    Calls Tryd.prog 3 #[v, .string ⟨nm.toArray⟩] W fun e W' => e = .returned (.bool true) ∧ Below W.heap.size W W' := by
  obtain ⟨T, hTT⟩ : ∃ T : Nat → Prop, ∀ j, T j ↔ W.heap.size ≤ j := ⟨fun j => W.heap.size ≤ j, fun j => Iff.rfl⟩
  have HTT := hid hTT
  have hNew := New_ix W T (fun j hj => (hTT j).2 hj)
  have hKn := fun wx => knows5_is wx
  have HT := hid hT
  obtain ⟨A, c, rfl, hcells⟩ := h0
  have HCE := hid hcells
  have HL := hid hl
  have AD := fun wx g i M k u m (h : Ix T wx (.pointer (some ⟨g, 0, none⟩)) (64 * i) M) (hk : (Lit.int .i64 k).wf = true) (hR : RdL wx u m) (hTb : Tabs wx) hsz (hz : W.heap.size ≤ wx.heap.size) (hi : i ≤ 1048576) => Add_ix T (.pointer (some ⟨g, 0, none⟩)) k u m (64 * i) M wx h hk hR hTb hsz (fun j hj => (hTT j).2 (by omega)) (by omega)
  have RM := fun wx g i M k (h : Ix T wx (.pointer (some ⟨g, 0, none⟩)) (64 * i) M) (hk : (Lit.int .i64 k).wf = true) => Rem_ix T (.pointer (some ⟨g, 0, none⟩)) k (64 * i) M wx h hk
  have HAD := hid AD
  have HRM := hid RM
  clear hcells AD RM hTT hT
  go_enter Tryd.func3, Tryd.ntmps3
  go_wp2_with (first
    | (go_at_call 4; refine hNew.mono ?_; rintro e w1 ⟨g, rfl, ix1, b1⟩; have IX1 := hid ix1; have B1 := hid b1; clear hNew ix1 b1)
    | (go_at_call 5; refine (hKn _).mono ?_; rintro e w2 ⟨rfl, b2⟩; have IX2 := hid (IX1.out.below b2); have B2 := hid (B1.out.trans (b2.mono B1.out.size)); clear hKn b2)
    | fail)
  go_loopw [6] (fun iv wr => ∃ (i : Nat) (M : Int → Option (List Lab)), iv = .int .i64 (i : Int) ∧ Hid (i ≤ l.length) ∧ Hid (Ix T wr (.pointer (some ⟨g, 0, none⟩)) (64 * i) M) ∧ Hid (Below W.heap.size W wr)) (fun iv _ => l.length - (intOf iv).toNat)
  case atStart => exact ⟨0, _, rfl, hid (Nat.zero_le _), IX2, B2⟩
  case round =>
    obtain ⟨i, M, rfl, hi, IX, BW⟩ := hrel
    by_cases hil : i < l.length
    · have hii : (i : Int) < (l.length : Int) := by omega
      have hi2 : (i : Int) + 1 ≤ 1048576 := by have := HL.out; omega
      obtain ⟨b, off, rfl, hb, hcc⟩ := HCE.out (by omega)
      obtain ⟨c0, c1, c2, hr, hsz, hwf⟩ := hcc i hil
      have k0 := (BW.out.cell (p := ⟨b, off + i * 5, none⟩) hb).trans c0
      have k1 := (BW.out.cell (p := ⟨b, off + i * 5 + 1, none⟩) hb).trans c1
      have k2 := (BW.out.cell (p := ⟨b, off + i * 5 + 2, none⟩) hb).trans c2
      have HR := hid (hr.below BW.out)
      have HSW := hid (And.intro hsz hwf)
      have HIL := hid hil
      clear hcc c0 c1 c2 hr hsz hwf hb
      generalize l[i] = o at *
      obtain ⟨kd, id, A9, c9, m⟩ := o
      simp only at k0 k1 k2
      clear hil
      by_cases hkd : kd = 1
      · have hk1 : ((kd : Int) == 1) = true := by simp [hkd]
        have RMw := HRM.out wr g i M id IX.out HSW.out.2
        clear hkd
        go_wp2_with (first
          | (go_at_call 6; refine RMw.mono ?_; rintro e w3 ⟨cd, M', rfl, ix3, ct3⟩; have IX3 := hid ix3; have B3 := hid (ct3.low BW.out (fun j hj => (HTT.out j).1 hj) BW.out.size); clear RMw ix3 ct3)
          | fail)
        go_roundw
        case rel => exact ⟨i + 1, M', by go_num, hid HIL.out, hid (IX3.out.more (by omega)), B3⟩
        case measure => have := HIL.out; simp [intOf]; omega
      · have hk1 : ((kd : Int) == 1) = false := by simp [hkd]
        have hS : wr.drew.cell? ⟨b, off + i * 5 + 1, none⟩ = some (.int .i64 id) ∧ wr.drew.cell? ⟨b, off + i * 5 + 2, none⟩ = some (.slice A9 m.length c9) := ⟨k1, k2⟩
        have bD : Below wr.heap.size wr wr.drew := (Below.refl _ _).drew
        have ADw := HAD.out wr.drew g i M id (.slice A9 m.length c9) m (IX.out.below bD) HSW.out.2 (HR.out.below bD) (HT.out.below (BW.out.trans (bD.mono BW.out.size))) HSW.out.1 (BW.out.trans (bD.mono BW.out.size)).size (by have := HL.out; have := HIL.out; omega)
        have hlen : l.length ≤ 1048576 := HL.out
        clear hkd bD
        go_upto_region 9 with fail
        refine wp_region_L 11 (fun wS => wS.cell? ⟨b, off + i * 5 + 1, none⟩ = some (.int .i64 id) ∧ wS.cell? ⟨b, off + i * 5 + 2, none⟩ = some (.slice A9 m.length c9)) (by kernel_rfl) ?_
        refine takeL (i := 0) (d := 42) (v := .pointer (some ⟨g, 0, none⟩)) rfl rfl (by kernel_rfl) (by kernel_rfl) (by kernel_rfl) (by kernel_rfl) (by kernel_rfl) (fun _ _ _ h => h) (Or.inl ⟨by rfl, fun wS hSw => by obtain ⟨s0, s1⟩ := hSw; go_simp⟩) hS ?_
        try simp only [List.setIfInBounds_toArray, List.set_cons_zero, List.set_cons_succ]
        refine takeL (i := 1) (d := 43) (v := .slice (some ⟨b, off, none⟩) l.length c) rfl rfl (by kernel_rfl) (by kernel_rfl) (by kernel_rfl) (by kernel_rfl) (by kernel_rfl) (fun _ _ _ h => h) (Or.inl ⟨by rfl, fun wS hSw => by obtain ⟨s0, s1⟩ := hSw; go_simp⟩) hS ?_
        try simp only [List.setIfInBounds_toArray, List.set_cons_zero, List.set_cons_succ]
        refine takeL (i := 2) (d := 44) (v := .int .i64 (i : Int)) rfl rfl (by kernel_rfl) (by kernel_rfl) (by kernel_rfl) (by kernel_rfl) (by kernel_rfl) (fun _ _ _ h => h) (Or.inl ⟨by rfl, fun wS hSw => by obtain ⟨s0, s1⟩ := hSw; go_simp⟩) hS ?_
        try simp only [List.setIfInBounds_toArray, List.set_cons_zero, List.set_cons_succ]
        refine takeL (i := 3) (d := 45) (v := .pointer (some ⟨b, off + i * 5, none⟩)) rfl rfl (by kernel_rfl) (by kernel_rfl) (by kernel_rfl) (by kernel_rfl) (by kernel_rfl) (fun _ _ _ h => h) (Or.inl ⟨by rfl, fun wS hSw => by obtain ⟨s0, s1⟩ := hSw; go_simp⟩) hS ?_
        try simp only [List.setIfInBounds_toArray, List.set_cons_zero, List.set_cons_succ]
        refine takeL (i := 4) (d := 46) (v := .pointer (some ⟨b, off + i * 5 + 1, none⟩)) rfl rfl (by kernel_rfl) (by kernel_rfl) (by kernel_rfl) (by kernel_rfl) (by kernel_rfl) (fun _ _ _ h => h) (Or.inl ⟨by rfl, fun wS hSw => by obtain ⟨s0, s1⟩ := hSw; go_simp⟩) hS ?_
        try simp only [List.setIfInBounds_toArray, List.set_cons_zero, List.set_cons_succ]
        refine takeL (i := 5) (d := 47) (v := .int .i64 id) rfl rfl (by kernel_rfl) (by kernel_rfl) (by kernel_rfl) (by kernel_rfl) (by kernel_rfl) (fun _ _ _ h => h) (Or.inl ⟨by rfl, fun wS hSw => by obtain ⟨s0, s1⟩ := hSw; go_simp⟩) hS ?_
        try simp only [List.setIfInBounds_toArray, List.set_cons_zero, List.set_cons_succ]
        refine takeL (i := 6) (d := 48) (v := .slice (some ⟨b, off, none⟩) l.length c) rfl rfl (by kernel_rfl) (by kernel_rfl) (by kernel_rfl) (by kernel_rfl) (by kernel_rfl) (fun _ _ _ h => h) (Or.inl ⟨by rfl, fun wS hSw => by obtain ⟨s0, s1⟩ := hSw; go_simp⟩) hS ?_
        try simp only [List.setIfInBounds_toArray, List.set_cons_zero, List.set_cons_succ]
        refine takeL (i := 7) (d := 49) (v := .int .i64 (i : Int)) rfl rfl (by kernel_rfl) (by kernel_rfl) (by kernel_rfl) (by kernel_rfl) (by kernel_rfl) (fun _ _ _ h => h) (Or.inl ⟨by rfl, fun wS hSw => by obtain ⟨s0, s1⟩ := hSw; go_simp⟩) hS ?_
        try simp only [List.setIfInBounds_toArray, List.set_cons_zero, List.set_cons_succ]
        refine takeL (i := 8) (d := 50) (v := .pointer (some ⟨b, off + i * 5, none⟩)) rfl rfl (by kernel_rfl) (by kernel_rfl) (by kernel_rfl) (by kernel_rfl) (by kernel_rfl) (fun _ _ _ h => h) (Or.inl ⟨by rfl, fun wS hSw => by obtain ⟨s0, s1⟩ := hSw; go_simp⟩) hS ?_
        try simp only [List.setIfInBounds_toArray, List.set_cons_zero, List.set_cons_succ]
        refine takeL (i := 9) (d := 51) (v := .pointer (some ⟨b, off + i * 5 + 2, none⟩)) rfl rfl (by kernel_rfl) (by kernel_rfl) (by kernel_rfl) (by kernel_rfl) (by kernel_rfl) (fun _ _ _ h => h) (Or.inl ⟨by rfl, fun wS hSw => by obtain ⟨s0, s1⟩ := hSw; go_simp⟩) hS ?_
        try simp only [List.setIfInBounds_toArray, List.set_cons_zero, List.set_cons_succ]
        refine takeL (i := 10) (d := 52) (v := .slice A9 m.length c9) rfl rfl (by kernel_rfl) (by kernel_rfl) (by kernel_rfl) (by kernel_rfl) (by kernel_rfl) (fun _ _ _ h => h) (Or.inl ⟨by rfl, fun wS hSw => by obtain ⟨s0, s1⟩ := hSw; go_simp⟩) hS ?_
        try simp only [List.setIfInBounds_toArray, List.set_cons_zero, List.set_cons_succ]
        refine readyL (rs := [11]) (by kernel_rfl) (by simp) ?_
        refine AllReadyL.last rfl (fun K hK => ?_)
        go_simp
        go_at_call 7
        refine ADw.mono ?_
        rintro e w3 ⟨cd, M', rfl, ix3, ct3⟩
        have IX3 := hid ix3
        have B3 := hid (ct3.low (BW.out.drew) (fun j hj => (HTT.out j).1 hj) BW.out.size)
        refine hK.out _ _ ?_
        clear hK K ix3 ct3 ADw k0 k1 k2 hS
        refine doneL (by kernel_rfl) ?_
        go_wp2_with fail
        go_roundw
        case rel => exact ⟨i + 1, M', by go_num, hid HIL.out, hid (IX3.out.more (by omega)), B3⟩
        case measure => have := HIL.out; simp [intOf]; omega
    · have hii : ¬ (i : Int) < (l.length : Int) := by omega
      have hmm : 64 * i ≤ 4398046511104 := by have := HL.out; have := hi.out; omega
      have VW := Values_ix T (.pointer (some ⟨g, 0, none⟩)) nm (64 * i) M wr IX.out hnm hmm
      have HMM := hid hmm
      clear hil hmm
      go_upto_region 12 with (first
        | (go_at_call 8; refine VW.mono ?_; rintro e wV ⟨uV, vs, rfl, oV, sV, nV, bV⟩; have OV := hid oV.rd; have SV := hid sV; have NV := hid nV; have IXV := hid (IX.out.below bV); have BV := hid (BW.out.trans (bV.mono BW.out.size)); clear VW oV sV nV bV))
      obtain ⟨K, hK1, hK2⟩ := IXV.out.dom
      have HK := hid (And.intro hK1 hK2)
      have HG := hid IXV.out.good
      obtain ⟨Av, cv, hv, hlc, hcv⟩ := OV.out
      subst hv
      have HCV : Hid (∀ j (hj : j < vs.length), ∃ bv offv, Av = some ⟨bv, offv, none⟩ ∧ bv < wV.heap.size ∧ ∀ j (hj : j < vs.length), wV.cell? ⟨bv, offv + j, none⟩ = some (.string ⟨vs[j].toArray⟩)) := hid (fun j hj => by
        obtain ⟨bv, offv, hA, hlt, hcell⟩ := hcv (by omega)
        refine ⟨bv, offv, hA, hlt, fun j hj => hcell j _ ?_⟩
        rw [KStr_cells, List.getElem?_map, List.getElem?_eq_getElem hj]
        rfl)
      have HVS : Hid (∀ j (hj : j < vs.length), (∃ k, PrM M k nm vs[j]) ∧ vs[j].length ≤ 9223372036854775807) := hid (fun j hj => by
        obtain ⟨k, l', e1, m1⟩ := (SV.out.2 vs[j]).1 (List.getElem_mem hj)
        refine ⟨⟨k, l', e1, m1⟩, ?_⟩
        have hr := (HG.out k l' e1).1
        unfold rightS at hr
        rw [Bool.and_eq_true] at hr
        have := (chain_all l' none hr.2 _ m1).2
        simp only at this
        omega)
      have HUP : Hid (∀ j k (hj : j < k) (hk : k < vs.length), (Op.bytesLess vs[k] (vs[j]'(by omega)) || vs[k] == (vs[j]'(by omega))) = false) := hid (fun j k hj hk => by
        have h1 := (List.pairwise_iff_getElem.1 SV.out.1) j k (by omega) hk hj
        rw [less_iff, decide_eq_true_eq] at h1
        rw [Bool.or_eq_false_iff]
        constructor
        · rw [less_iff, decide_eq_false_iff_not]
          have := bytesCmp.neg (vs[j]'(by omega)) vs[k]
          omega
        · rw [beq_eq_false_iff_ne]
          intro e
          rw [← e, (bytesCmp.eq _ _).2 rfl] at h1
          omega)
      have HOR : Hid (∀ acc : List Int, acc.Pairwise (· < ·) → (∀ x ∈ acc, ∃ va, PrM M x nm va) → acc.length ≤ 65536) := hid (fun acc h1 h2 => Nat.le_trans (nodup_len (h1.imp (fun h => by omega)) (fun x hx => by
        obtain ⟨va, l', e1, _⟩ := h2 x hx
        exact HK.out.2 x (by rw [e1]; simp))) HK.out.1)
      have hvl : vs.length ≤ 4398046511104 := Nat.le_trans NV.out HMM.out
      clear hlc hcv hK1 hK2 hii
      go_wp2_with fail
      go_loopw [8, 9, 10, 11, 12, 13, 14, 15] (fun av iv _ _ _ _ _ _ w2 => ∃ (i2 : Nat) (acc : List Int), iv = .int .i64 (i2 : Int) ∧ Hid (i2 ≤ vs.length) ∧ Hid (Rises acc (fun k => ∃ j, ∃ hj : j < vs.length, j < i2 ∧ PrM M k nm vs[j])) ∧ Hid (RdI w2 av acc) ∧ Hid (Below wV.heap.size wV w2)) (fun _ iv _ _ _ _ _ _ _ => vs.length - (intOf iv).toNat)
      case atStart => exact ⟨0, [], rfl, hid (Nat.zero_le _), hid ⟨List.Pairwise.nil, fun x => ⟨fun c => (by cases c), fun ⟨j, _, h, _⟩ => (by omega)⟩⟩, hid (RdI.nil _), hid (Below.refl _ _)⟩
      case round =>
        obtain ⟨i2, acc, rfl, hi2, RA, RDA, BX⟩ := hrel
        have HAC : Hid (acc.length ≤ 65536) := hid (HOR.out acc RA.out.1 (fun x hx => by obtain ⟨j, hj, _, hp⟩ := (RA.out.2 x).1 hx; exact ⟨_, hp⟩))
        by_cases hil : i2 < vs.length
        · have hii : (i2 : Int) < (vs.length : Int) := by omega
          have hi3 : (i2 : Int) + 1 ≤ 4398046511104 := by omega
          obtain ⟨bv, offv, rfl, hbv, hcc⟩ := HCV.out i2 hil
          have k0 := (BX.out.cell (p := ⟨bv, offv + i2, none⟩) hbv).trans (hcc i2 hil)
          have HVI := hid (HVS.out i2 hil)
          have HIL := hid hil
          have HCC := hid (And.intro hbv hcc)
          obtain ⟨va, hva⟩ : ∃ va, va = vs[i2] := ⟨_, rfl⟩
          have HVA := hid hva
          replace k0 : wr.cell? ⟨bv, offv + i2, none⟩ = some (.string ⟨va.toArray⟩) := by rw [hva]; exact k0
          replace HVI : Hid ((∃ k, PrM M k nm va) ∧ va.length ≤ 9223372036854775807) := hid (by rw [hva]; exact HVI.out)
          have OF := Of_ix T (.pointer (some ⟨g, 0, none⟩)) nm va (64 * i) M wr (IXV.out.below BX.out) hnm HVI.out.2 HMM.out
          have LBL := fun wx (b : Below wV.heap.size wV wx) k l' (hM : M k = some l') => Labels_ix T (.pointer (some ⟨g, 0, none⟩)) k l' (64 * i) M wx (IXV.out.below b) hM
          have HLB := hid LBL
          clear hil hcc hbv hva LBL
          go_upto_region 16 with (first
            | (go_at_call 9; refine OF.mono ?_; rintro e wO ⟨uO, r, rfl, oO, rO, nO, bO⟩; have OO := hid oO.rd; have RO := hid rO; have NO := hid nO; have BO := hid bO; have RDO := hid (RDA.out.below bO); have BVO := hid (BX.out.trans (bO.mono BX.out.size)); clear OF oO rO nO bO))
          obtain ⟨AO, cO, hO, hlO, hcO⟩ := id OO.out
          subst hO
          have hrp : 0 < r.length := by
            obtain ⟨k, hk⟩ := HVI.out.1
            exact List.length_pos_of_mem ((RO.out.2 k).2 hk)
          obtain ⟨bO, offO, rfl, hbO, hcellO⟩ := hcO hrp
          have hr0 : ((r.length : Int) == 0) = false := by rw [beq_eq_false_iff_ne]; omega
          have HRO := hid (And.intro hbO hcellO)
          have k1 : wO.cell? ⟨bv, offv + i2, none⟩ = some (.string ⟨va.toArray⟩) := by rw [HVA.out]; exact (BVO.out.cell (p := ⟨bv, offv + i2, none⟩) HCC.out.1).trans (HCC.out.2 i2 HIL.out)
          have hrn : r.length ≤ 4398046511104 := Nat.le_trans NO.out HMM.out
          clear hlO hcO hbO hcellO k0
          go_cut [88] from 57 to 141 (fun cv wx => cv = .bool false ∧ Hid (Below wO.heap.size wO wx))
          case first =>
            by_cases h0 : i2 = 0
            · have hg0 : decide ((0 : Int) < (i2 : Int)) = false := decide_eq_false (by omega)
              have hg1 : decide (0 < i2) = false := decide_eq_false (by omega)
              clear h0 hrp
              go_quiet (fail)
              go_wp2_with fail
              go_meet
              exact ⟨rfl, hid ⟨rfl, rfl, rfl, Nat.le_refl _, fun _ _ => rfl⟩⟩
            · obtain ⟨k, hk0⟩ : ∃ k, i2 = k + 1 := ⟨i2 - 1, by omega⟩
              have hkl : k < vs.length := by omega
              have k2 := (BVO.out.cell (p := ⟨bv, offv + k, none⟩) HCC.out.1).trans (HCC.out.2 k hkl)
              have hle := HUP.out k i2 (by omega) HIL.out
              obtain ⟨y, hy⟩ : ∃ y, y = vs[k] := ⟨_, rfl⟩
              replace hle : (Op.bytesLess va y || va == y) = false := by rw [HVA.out, hy]; exact hle
              replace k2 : wO.cell? ⟨bv, offv + k, none⟩ = some (.string ⟨y.toArray⟩) := by rw [hy]; exact k2
              have hg0 : decide ((0 : Int) < (i2 : Int)) = true := decide_eq_true (by omega)
              have hg1 : decide (0 < i2) = true := decide_eq_true (by omega)
              have hki : (k : Int) < (vs.length : Int) := by omega
              have zk : IntKind.i64.wrap ((i2 : Int) - 1) = (k : Int) := by rw [IntKind.wrap_i64] <;> omega
              have zk1 : (i2 : Int) - 1 = (k : Int) := by omega
              have zk2 : IntKind.i64.wrap (k : Int) = (k : Int) := by rw [IntKind.wrap_i64] <;> omega
              have zk3 : wrap64 (k : Int) = (k : Int) := IntWalk.wrap64_in _ ⟨by omega, by omega⟩
              have HLE := hid hle
              clear h0 hrp hk0 hy hle
              go_quiet (fail)
              go_wp2_with fail
              go_meet
              exact ⟨by rw [HLE.out], hid ⟨rfl, rfl, rfl, Nat.le_refl _, fun _ _ => rfl⟩⟩
          case rest =>
            obtain ⟨rfl, BQ⟩ := hcut
            have BVC := hid (BVO.out.trans (BQ.out.mono BVO.out.size))
            clear k1 hr0
            go_wp2_with fail
            go_loopw [11, 12, 13, 14, 15] (fun kv _ _ _ _ w3 => ∃ (q : Nat), kv = .int .i64 (q : Int) ∧ Hid (q ≤ r.length) ∧ Hid (Below wc.heap.size wc w3)) (fun kv _ _ _ _ _ => r.length - (intOf kv).toNat)
            case atStart => exact ⟨0, rfl, hid (Nat.zero_le _), hid (Below.refl _ _)⟩
            case round =>
              obtain ⟨q, rfl, hq, B3⟩ := hrel
              have B3O := hid (BQ.out.trans (B3.out.mono BQ.out.size))
              have B3V := hid (BVC.out.trans (B3.out.mono BVC.out.size))
              by_cases hqr : q < r.length
              · have hqi : (q : Int) < (r.length : Int) := by omega
                have hq2 : (q : Int) + 1 ≤ 4398046511104 := by omega
                have kq := (B3O.out.cell (p := ⟨bO, offO + q, none⟩) HRO.out.1).trans (HRO.out.2 q hqr)
                obtain ⟨l', hM', hm'⟩ := (RO.out.2 r[q]).1 (List.getElem_mem hqr)
                have LB := HLB.out wr B3V.out r[q] l' hM'
                have hl16 := (rightS_pos (HG.out r[q] l' hM').1).2
                have HM2 := hid hm'
                have HQR := hid hqr
                generalize r[q] = x at *
                clear hqr hM' hm'
                go_upto_region 23 with (first
                  | (go_at_call 10; refine LB.mono ?_; rintro e w4 ⟨A4, c4, rfl, b4, r4⟩; have B4 := hid b4; have R4 := hid r4; clear LB kq b4 r4))
                obtain ⟨hlc4, hcl4⟩ : l'.length ≤ c4 ∧ (0 < l'.length → ∃ b4 o4, A4 = some ⟨b4, o4, none⟩ ∧ b4 < w4.heap.size ∧ ∀ j (hj : j < l'.length), w4.cell? ⟨b4, o4 + j * 2, none⟩ = some (.string ⟨(l'[j]).1.toArray⟩) ∧ w4.cell? ⟨b4, o4 + j * 2 + 1, none⟩ = some (.string ⟨(l'[j]).2.toArray⟩)) := by
                  obtain ⟨A', c', e, h1, h2⟩ := R4.out
                  injection e with e1 e2 e3
                  subst e1 e3
                  exact ⟨h1, h2⟩
                obtain ⟨b4, o4, rfl, hb4, hc4⟩ := hcl4 (List.length_pos_of_mem HM2.out)
                have HC4 := hid (And.intro hb4 hc4)
                have B4O := hid (B3.out.trans (B4.out.mono B3.out.size))
                have kv := (BVC.out.trans (B4O.out.mono BVC.out.size))
                have kva : w4.cell? ⟨bv, offv + i2, none⟩ = some (.string ⟨va.toArray⟩) := by rw [HVA.out]; exact (kv.cell (p := ⟨bv, offv + i2, none⟩) HCC.out.1).trans (HCC.out.2 i2 HIL.out)
                have HKV := hid kva
                have HBV2 : Hid (bv < w4.heap.size) := hid (Nat.lt_of_lt_of_le HCC.out.1 kv.size)
                clear hlc4 hcl4 hb4 hc4 kv kva
                go_wp2_with fail
                go_loopw [14, 15] (fun fv sv w5 => ∃ (s : Nat), sv = .int .i64 (s : Int) ∧ Hid (s ≤ l'.length) ∧ fv = .bool ((l'.take s).any (fun p => p.1 == nm && p.2 == va)) ∧ Hid (Below w4.heap.size w4 w5)) (fun _ sv _ => l'.length - (intOf sv).toNat)
                case atStart => exact ⟨0, rfl, hid (Nat.zero_le _), by simp, hid (Below.refl _ _)⟩
                case round =>
                  obtain ⟨s, rfl, hs, rfl, B5⟩ := hrel
                  by_cases hsl : s < l'.length
                  · have hsi : (s : Int) < (l'.length : Int) := by omega
                    have hs2 : (s : Int) + 1 ≤ 16 := by omega
                    have m0 := (B5.out.cell (p := ⟨b4, o4 + s * 2, none⟩) HC4.out.1).trans (HC4.out.2 s hsl).1
                    have m1 := (B5.out.cell (p := ⟨b4, o4 + s * 2 + 1, none⟩) HC4.out.1).trans (HC4.out.2 s hsl).2
                    have m2 := (B5.out.cell (p := ⟨bv, offv + i2, none⟩) HBV2.out).trans HKV.out
                    have HAN : Hid ((l'.take (s + 1)).any (fun p => p.1 == nm && p.2 == va) = ((l'.take s).any (fun p => p.1 == nm && p.2 == va) || ((l'[s]).1 == nm && (l'[s]).2 == va))) := hid (by rw [List.take_succ_eq_append_getElem hsl, List.any_append]; simp)
                    have HSL := hid hsl
                    generalize l'[s] = p at *
                    obtain ⟨pn, pv⟩ := p
                    simp only at m0 m1 HAN
                    have t0 : ((⟨pn.toArray⟩ : ByteArray).toList == (⟨nm.toArray⟩ : ByteArray).toList) = (pn == nm) := by rw [ByteArray.toList_eq, ByteArray.toList_eq, tl_nm, tl_nm]
                    have t1 : ((⟨pv.toArray⟩ : ByteArray).toList == (⟨va.toArray⟩ : ByteArray).toList) = (pv == va) := by rw [ByteArray.toList_eq, ByteArray.toList_eq, tl_nm, tl_nm]
                    have HAN2 := HAN.out
                    obtain ⟨f1, hf1⟩ : ∃ f1, f1 = (pn == nm) := ⟨_, rfl⟩
                    obtain ⟨f2, hf2⟩ : ∃ f2, f2 = (pv == va) := ⟨_, rfl⟩
                    rw [← hf1] at t0
                    rw [← hf2] at t1
                    have t2 := hf1.symm
                    have t3 := hf2.symm
                    rw [← hf1, ← hf2] at HAN2
                    replace HAN := hid HAN2
                    clear hsl HAN2 hf1 hf2
                    go_upto_region 26 with fail
                    generalize (l'.take s).any (fun p => p.1 == nm && p.2 == va) = fb at *
                    cases fb with
                    | true =>
                      go_quiet (fail)
                      go_wp2_with fail
                      go_roundw
                      case rel => exact ⟨s + 1, by go_num, hid HSL.out, by rw [HAN.out]; rfl, hid (B5.out.trans ⟨rfl, rfl, rfl, Nat.le_refl _, fun _ _ => rfl⟩)⟩
                      case measure => have := HSL.out; simp [intOf]; omega
                    | false =>
                      cases f1 with
                      | false =>
                        go_quiet (fail)
                        go_wp2_with fail
                        go_roundw
                        case rel => exact ⟨s + 1, by go_num, hid HSL.out, by rw [HAN.out]; rfl, hid (B5.out.trans ⟨rfl, rfl, rfl, Nat.le_refl _, fun _ _ => rfl⟩)⟩
                        case measure => have := HSL.out; simp [intOf]; omega
                      | true =>
                        cases f2 with
                        | false =>
                          go_quiet (fail)
                          go_wp2_with fail
                          go_roundw
                          case rel => exact ⟨s + 1, by go_num, hid HSL.out, by rw [HAN.out]; rfl, hid (B5.out.trans ⟨rfl, rfl, rfl, Nat.le_refl _, fun _ _ => rfl⟩)⟩
                          case measure => have := HSL.out; simp [intOf]; omega
                        | true =>
                          go_quiet (fail)
                          go_wp2_with fail
                          go_roundw
                          case rel => exact ⟨s + 1, by go_num, hid HSL.out, by rw [HAN.out]; rfl, hid (B5.out.trans ⟨rfl, rfl, rfl, Nat.le_refl _, fun _ _ => rfl⟩)⟩
                          case measure => have := HSL.out; simp [intOf]; omega
                  · have hsi : ¬ (s : Int) < (l'.length : Int) := by omega
                    have hft : (l'.take s).any (fun p => p.1 == nm && p.2 == va) = true := by
                      rw [List.take_of_length_le (by have := hs.out; omega), List.any_eq_true]
                      exact ⟨_, HM2.out, by simp⟩
                    rw [hft]
                    have B6 := hid (B4O.out.trans (B5.out.mono B4O.out.size))
                    clear hsl hft
                    go_wp2_with (first
                      | (go_at_call 11; refine (num5_is _ _).mono ?_; rintro e w6 ⟨rfl, hw6⟩; subst hw6)
                      | fail)
                    go_roundw
                    case rel => exact ⟨q + 1, by go_num, hid HQR.out, hid B6.out⟩
                    case measure => have := HQR.out; simp [intOf]; omega
              · have hqi : ¬ (q : Int) < (r.length : Int) := by omega
                have OR := Or_is _ _ acc r wr ((RDO.out.below BQ.out).below B3.out) (OO.out.below B3O.out) (by have := HAC.out; omega)
                have HRS : Hid (∀ x, (x ∈ acc ∨ x ∈ r) ↔ ∃ j, ∃ hj : j < vs.length, j < i2 + 1 ∧ PrM M x nm vs[j]) := hid (fun x => by
                  rw [RA.out.2 x, RO.out.2 x]
                  constructor
                  · rintro (⟨j, hj, h1, h2⟩ | h)
                    · exact ⟨j, hj, by omega, h2⟩
                    · exact ⟨i2, HIL.out, by omega, by have h' := h; rw [HVA.out] at h'; exact h'⟩
                  · rintro ⟨j, hj, h1, h2⟩
                    by_cases e : j = i2
                    · subst e
                      exact .inr (by rw [HVA.out]; exact h2)
                    · exact .inl ⟨j, hj, by omega, h2⟩)
                clear hqr
                go_wp2_with (first
                  | (go_at_call 12; refine OR.mono ?_; rintro e w7 ⟨v7, l7, rfl, o7, r7, n7, b7⟩; have O7 := hid o7.rd; have R7 := hid (r7.congr HRS.out); have B7 := hid (B3V.out.trans (b7.mono B3V.out.size)); clear OR o7 r7 n7 b7)
                  | fail)
                go_roundw
                case rel => exact ⟨i2 + 1, l7, by go_num, hid HIL.out, R7, O7, B7⟩
                case measure => have := HIL.out; simp [intOf]; omega
        · have hii : ¬ (i2 : Int) < (vs.length : Int) := by omega
          have hie : i2 = vs.length := by have := hi2.out; omega
          have WT := With_ix T (.pointer (some ⟨g, 0, none⟩)) nm (64 * i) M wr (IXV.out.below BX.out) hnm HMM.out
          have AL := fun wx (b : Below wV.heap.size wV wx) => All_ix T (.pointer (some ⟨g, 0, none⟩)) (64 * i) M wx (IXV.out.below b)
          have HAL := hid AL
          have HSA : Hid (∀ x, (∃ j, ∃ hj : j < vs.length, j < i2 ∧ PrM M x nm vs[j]) ↔ ∃ va, PrM M x nm va) := hid (fun x => by
            constructor
            · rintro ⟨j, hj, _, h2⟩; exact ⟨_, h2⟩
            · rintro ⟨va, h2⟩
              have hm := (SV.out.2 va).2 ⟨x, h2⟩
              obtain ⟨j, hj, e⟩ := List.getElem_of_mem hm
              exact ⟨j, hj, by omega, by rw [e]; exact h2⟩)
          have HDM : Hid (∀ x, x ∈ acc → M x ≠ none) := hid (fun x hx => by
            obtain ⟨j, hj, _, l9, e, _⟩ := (RA.out.2 x).1 hx
            rw [e]; simp)
          have hacl : acc.length ≤ 65536 := HAC.out
          have t1 := True.intro
          clear hil hie AL
          go_wp2_with (first
            | (go_at_call 14; refine WT.mono ?_; rintro e w3 ⟨u3, r3, rfl, o3, s3, n3, b3⟩; have e3 : acc = r3 := RA.out.one s3 HSA.out; have IN1 := Ints_yes _ _ acc r3 w3 (RDA.out.below b3) o3.rd (by omega) e3; have B3 := hid (BX.out.trans (b3.mono BX.out.size)); have RD3 := hid (RDA.out.below b3); clear WT o3 s3 n3 b3 e3)
            | (clear t1; go_at_call 13; refine IN1.mono ?_; rintro e w4 ⟨rfl, b4⟩; have B4 := hid (B3.out.trans (b4.mono B3.out.size)); have RD4 := hid (RD3.out.below b4); have AL4 := HAL.out w4 B4.out; clear IN1 b4)
            | (go_at_call 16; refine AL4.mono ?_; rintro e w5 ⟨u5x, r5, rfl, o5, s5, n5, b5⟩; have AN := And_is _ _ acc r5 w5 (RD4.out.below b5) o5.rd (by omega) (by omega); have B5 := hid (B4.out.trans (b5.mono B4.out.size)); have RD5 := hid (RD4.out.below b5); have S5 := hid s5; clear AL4 o5 s5 n5 b5)
            | (go_at_call 15; refine AN.mono ?_; rintro e w6 ⟨u6, r6, rfl, o6, s6, n6, b6⟩; have e6 : r6 = acc := s6.one RA.out (fun x => (show (x ∈ acc ∧ x ∈ r5) ↔ x ∈ acc from ⟨fun c => c.1, fun c => ⟨c, (S5.out.2 x).2 (HDM.out x c)⟩⟩).trans (RA.out.2 x)); have IN2 := Ints_yes _ _ r6 acc w6 o6.rd (RD5.out.below b6) (by omega) e6; have B6 := hid (B5.out.trans (b6.mono B5.out.size)); clear AN o6 s6 n6 b6 e6)
            | (go_at_call 13; refine IN2.mono ?_; rintro e w7 ⟨rfl, b7⟩; have B7 := hid (B6.out.trans (b7.mono B6.out.size)); clear IN2 b7)
            | fail)
          go_ret
          exact ⟨rfl, BV.out.trans (B7.out.mono BV.out.size)⟩
end Go.Proofs.YtnlkipgjacgddaaDoor
