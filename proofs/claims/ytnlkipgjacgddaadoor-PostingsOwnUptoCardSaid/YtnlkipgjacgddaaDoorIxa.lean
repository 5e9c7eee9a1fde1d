/-
  Add where it takes: the number has the labels from then on. Conditions: those that each theorem names.
-/
import Derived.Test.YtnlkipgjacgddaaDoorIxm
import Derived.Test.YtnlkipgjacgddaaDoorOrl
namespace Go.Proofs.YtnlkipgjacgddaaDoor
open Go.RowKit Go.Maps Go.Icz Go.ChangeMaps Go.MapKept Go.WideShapes
attribute [local go_sem] Oper.semAt_some
set_option maxRecDepth 100000
set_option maxHeartbeats 4000000
theorem PrM_add {M : Int → Option (List Lab)} {k : Int} (hM : M k = none) (l : List Lab) (j : Int) (x y : List UInt8) : PrM (updM M k (some l)) j x y ↔ PrM M j x y ∨ (j = k ∧ (x, y) ∈ l) := by
  unfold PrM updM
  by_cases e : j = k
  · subst e
    simp [hM]
  · simp [e]
/-- The pairs that stand behind i labels. -/
def PrA (M : Int → Option (List Lab)) (k : Int) (l : List Lab) (i : Nat) : Rel3 := fun j x y => PrM M j x y ∨ (j = k ∧ (x, y) ∈ l.take i)
theorem PrA_zero (M : Int → Option (List Lab)) (k : Int) (l : List Lab) (j : Int) (x y : List UInt8) : PrM M j x y ↔ PrA M k l 0 j x y := by unfold PrA; simp
theorem PrA_succ (M : Int → Option (List Lab)) (k : Int) (l : List Lab) {i : Nat} (hi : i < l.length) (j : Int) (x y : List UInt8) : (PrA M k l i j x y ∨ (j = k ∧ x = l[i].1 ∧ y = l[i].2)) ↔ PrA M k l (i + 1) j x y := by
  unfold PrA
  rw [List.take_succ_eq_append_getElem hi]
  simp only [List.mem_append, List.mem_singleton, Prod.ext_iff]
  constructor
  · rintro ((h | h) | ⟨h1, h2, h3⟩)
    · exact .inl h
    · exact .inr ⟨h.1, .inl h.2⟩
    · exact .inr ⟨h1, .inr ⟨h2, h3⟩⟩
  · rintro (h | ⟨h1, h2 | h2⟩)
    · exact .inl (.inl h)
    · exact .inl (.inr ⟨h1, h2⟩)
    · exact .inr ⟨h1, h2⟩
theorem Add_yes (T : Nat → Prop) (v : Value) (k : Int) (u : Value) (l : List Lab) (b0 b1 n : Nat) (D0 : DataW Unit) (N : NmMap) (V : VaMap) (D1 : DataW Unit) (M : Int → Option (List Lab)) (w : World) (h : IxI T w v b0 b1 n D0 N V D1 M)
    (hid0 : 0 ≤ k ∧ k < 1099511627776) (hR : RdL w u l) (hTb : Tabs w) (hsz : ∀ x ∈ l, x.1.length ≤ 9223372036854775807 ∧ x.2.length ≤ 9223372036854775807) (hg : rightS l = true) (hM : M k = none) (hf : Maps.size D0 < 65536) (hnew : ∀ j, w.heap.size ≤ j → T j) (hn : n + 64 ≤ 140737488355328) :
    Calls Tryd.prog 7 #[v, .int .i64 k, u] w fun e w' => e = .returned (.int .i64 0) ∧ Ix T w' v (n + 64) (updM M k (some l)) ∧ Ct T w w' := by
  have hk := wf_of hid0.1 hid0.2
  have hh : Maps.has D0 (.int .i64 k) = false := by
    cases hc : Maps.has D0 (.int .i64 k) with
    | false => rfl
    | true => exact absurd hM ((h.lab.1 k hk).1 hc)
  have hT := there_is v k b0 b1 n D0 w hk h.hd h.dom
  have hI := rightID_is k w
  rw [decide_eq_true hid0] at hI
  have hG := Right_is u l w hR hTb hsz
  rw [hg] at hG
  rw [hh] at hT
  rw [if_neg (by simp)] at hT
  obtain ⟨hl1, hl2⟩ := rightS_pos hg
  have hC := fun wx (b : Below w.heap.size w wx) => cloneLc_is u l wx (hR.below b) (by omega)
  obtain ⟨g, hv, hgl, g0, g1⟩ := h.hd
  obtain ⟨sz, hszz⟩ : ∃ sz : Int, sz = (Maps.size D0 : Int) := ⟨_, rfl⟩
  have hf2 : decide ((65536 : Int) ≤ sz) = false := decide_eq_false (by omega)
  obtain ⟨tb0, tb1, tne, tg⟩ := h.ter
  have HG := hid (tg g hv)
  have HH := hid h
  have HC := hid hC
  have HT := hid (And.intro tb0 (And.intro tb1 tne))
  have HN := hid (And.intro hn (And.intro hl1 hl2))
  have HNW := hid hnew
  have HM := hid (And.intro hM (And.intro hg hf))
  have HK := hid (And.intro hk hh)
  have HR := hid hR
  have HSZ := hid hsz
  have HGL := hid hgl
  have HG0 := hid g0
  have HG1 := hid g1
  have HLEN := fun wx (b : Below w.heap.size w wx) ty => (ownsMap_below h.dom b).len Tryd.underlying46 ty
  rw [← hszz] at HLEN
  have HLN := hid HLEN
  obtain ⟨A, c, hu, hlc, hcell⟩ := hR
  have HCL := hid hcell
  subst hv hu
  clear hk hh hC tb0 tb1 tne tg hn hnew hM hg hf hsz hgl HLEN hcell h hszz
  have hid1 := hid0
  go_enter Tryd.func7, Tryd.ntmps7
  go_upto_region 10 with (first
    | (go_at_call 19; refine hT.mono ?_; rintro e w1 ⟨rfl, hw⟩; rw [hw]; clear hT hw)
    | (go_at_call 20; refine hI.mono ?_; rintro e w1 ⟨rfl, hw⟩; rw [← hw]; clear hI hw)
    | (go_at_call 21; refine hG.mono ?_; rintro e w2 ⟨rfl, b2⟩; have hLn := HLN.out w2 b2; have q0 := (b2.cell (p := ⟨g, 0, none⟩) HGL.out).trans HG0.out; have B2 := hid b2; clear hG b2 g0 g1))
  clear hLn q0 hf2 hid1
  have bD : Below w.heap.size w w2.drew := B2.out.drew
  have S0 : ∀ wx, Below w.heap.size w wx → wx.cell? ⟨g, 0, none⟩ = some (.map (some b0)) := fun wx b => (b.cell (p := ⟨g, 0, none⟩) HGL.out).trans HG0.out
  have cD := S0 _ bD
  go_cut [5] from 35 to 60 (fun _ wx => ∃ (d : DataW Unit) (u' : Value) (p : List MemPlace), Hid (rSl u' = some (d, p) ∧ RdL wx u' l ∧ ∀ b o m c, u' = .slice (some ⟨b, o, none⟩) m c → T b) ∧ Hid (wx.ownsMap Tryd.prog 3 rSl b0 (n + 1) (D0.put (.int .i64 k) d)) ∧ Hid (Ids 0 wx b1 n N V D1 (PrM M)) ∧ Hid (Ct T w wx))
  case first =>
    refine wp_region_L 7 (fun wS => wS.cell? ⟨g, 0, none⟩ = some (.map (some b0))) (by kernel_rfl) ?_
    refine takeL (i := 0) (d := 35) (v := .pointer (some ⟨g, 0, none⟩)) rfl rfl (by kernel_rfl) (by kernel_rfl) (by kernel_rfl) (by kernel_rfl) (by kernel_rfl) (fun _ _ _ h => h) (Or.inl ⟨by rfl, fun wS hSw => by go_simp⟩) cD ?_
    try simp only [List.setIfInBounds_toArray, List.set_cons_zero, List.set_cons_succ]
    refine takeL (i := 1) (d := 36) (v := .pointer (some ⟨g, 0, none⟩)) rfl rfl (by kernel_rfl) (by kernel_rfl) (by kernel_rfl) (by kernel_rfl) (by kernel_rfl) (fun _ _ _ h => h) (Or.inl ⟨by rfl, fun wS hSw => by go_simp⟩) cD ?_
    try simp only [List.setIfInBounds_toArray, List.set_cons_zero, List.set_cons_succ]
    refine takeL (i := 2) (d := 37) (v := .pointer (some ⟨g, 0, none⟩)) rfl rfl (by kernel_rfl) (by kernel_rfl) (by kernel_rfl) (by kernel_rfl) (by kernel_rfl) (fun _ _ _ h => h) (Or.inl ⟨by rfl, fun wS hSw => by go_simp⟩) cD ?_
    try simp only [List.setIfInBounds_toArray, List.set_cons_zero, List.set_cons_succ]
    refine takeL (i := 3) (d := 38) (v := .map (some b0)) rfl rfl (by kernel_rfl) (by kernel_rfl) (by kernel_rfl) (by kernel_rfl) (by kernel_rfl) (fun _ _ _ h => h) (Or.inl ⟨by rfl, fun wS hSw => by go_simp⟩) cD ?_
    try simp only [List.setIfInBounds_toArray, List.set_cons_zero, List.set_cons_succ]
    refine takeL (i := 4) (d := 39) (v := .int .i64 k) rfl rfl (by kernel_rfl) (by kernel_rfl) (by kernel_rfl) (by kernel_rfl) (by kernel_rfl) (fun _ _ _ h => h) (Or.inl ⟨by rfl, fun wS hSw => by go_simp⟩) cD ?_
    try simp only [List.setIfInBounds_toArray, List.set_cons_zero, List.set_cons_succ]
    refine takeL (i := 5) (d := 40) (v := .slice A l.length c) rfl rfl (by kernel_rfl) (by kernel_rfl) (by kernel_rfl) (by kernel_rfl) (by kernel_rfl) (fun _ _ _ h => h) (Or.inl ⟨by rfl, fun wS hSw => by go_simp⟩) cD ?_
    try simp only [List.setIfInBounds_toArray, List.set_cons_zero, List.set_cons_succ]
    refine readyL (rs := [6]) (by kernel_rfl) (by simp) ?_
    refine AllReadyL.cons rfl (fun K hK => ?_) AllReadyL.nil
    go_simp
    go_at_call 22
    refine (HC.out _ bD).mono ?_
    rintro e w4 ⟨A4, c4, rfl, b4, r4, h4⟩
    have b04 : Below w.heap.size w w4 := bD.trans (b4.mono bD.size)
    obtain ⟨ob, oo, rfl, hob⟩ := h4 (by have := HN.out.2.1; omega)
    have hrs : rSl (.slice (some ⟨ob, oo, none⟩) l.length c4) = some (.agg [.lit (.int .i64 ob), .lit (.int .i64 oo), .lit (.int .i64 l.length), .lit (.int .i64 c4)], []) := rfl
    have ho4 := ownsMap_below HH.out.dom b04
    obtain ⟨w5, hup, hown5, htu⟩ := ho4.store (int_keyed Tryd.underlying3) Tryd.underlying46 (by have := HN.out.1; unfold maxLen; omega) (keyI HK.out.1) hrs
    refine hK.out _ _ (S0 _ b04) ?_
    clear hK K
    try simp only [Act.put, List.setIfInBounds_toArray, List.set_cons_zero, List.set_cons_succ]
    refine readyL (rs := [7]) (by kernel_rfl) (by simp) ?_
    refine AllReadyL.last rfl (fun K hK => ?_)
    rw [if_pos (by rfl)]
    have HF : Hid (RdL w5 (.slice (some ⟨ob, oo, none⟩) l.length c4) l ∧ Ids 0 w5 b1 n N V D1 (PrM M) ∧ Ct T w w5 ∧ T ob) := hid (by
      have c5 : Ct T w4 w5 := Ct.of_grown htu.grown HT.out.1 (ownsMap_at ho4)
      refine ⟨c5.rdL r4, (HH.out.ids.below b04).grown htu.grown (fun e => HT.out.2.2 e.symm) (fun nm b e => (HH.out.lv.1 nm b e).1) (fun nm va b e => (HH.out.lv.2 nm va b e).1), (Ct.of_below b04).trans c5, HNW.out _ (Nat.le_trans bD.size hob)⟩)
    have HO5 := hid hown5
    clear hown5 htu ho4 r4 b4 b04 hob
    go_simp
    refine hK.out _ _ ?_
    clear hK K hup
    refine doneL (by kernel_rfl) ?_
    go_wp2_with fail
    go_meet
    exact ⟨_, _, _, hid ⟨hrs, HF.out.1, fun b o m c e => by injection e with e; injection e with e; injection e with e; subst e; exact HF.out.2.2.2⟩, HO5, hid HF.out.2.1, hid HF.out.2.2.1⟩
  case rest =>
    obtain ⟨d, u', p, HU, HD, HI, HCT⟩ := hcut
    obtain ⟨ab, ao, hA, hab, hcl⟩ := HCL.out (by have := HN.out.2.1; omega)
    subst hA
    have HCE := hid hcl
    have hl16 : l.length ≤ 16 := HN.out.2.2
    clear cD hcl hab B2 bD S0
    go_wp2_with fail
    go_loopw [9, 44] (fun _ iv wr => ∃ (i : Nat) (N' : NmMap) (V' : VaMap) (D1' : DataW Unit), iv = .int .i64 (i : Int) ∧ Hid (i ≤ l.length) ∧ Hid (Ids 0 wr b1 (n + 3 * i) N' V' D1' (PrA M k l i)) ∧ Hid (Full N' V' (PrA M k l i)) ∧ Hid (Lv T b0 N' V') ∧ Hid (wr.ownsMap Tryd.prog 3 rSl b0 (n + 1) (D0.put (.int .i64 k) d)) ∧ Hid (Ct T w wr) ∧ Hid (RdL wr u' l)) (fun _ iv _ => l.length - (intOf iv).toNat)
    case atStart => exact ⟨0, N, V, D1, rfl, hid (Nat.zero_le _), hid (HI.out.congr (PrA_zero M k l)), hid (HH.out.full.congr (PrA_zero M k l)), hid HH.out.lv, HD, HCT, hid HU.out.2.1⟩
    case round =>
      obtain ⟨i, N', V', D1', rfl, hi, HI', HF', HL', HD', HC', HU'⟩ := hrel
      by_cases hil : i < l.length
      · have hii : (i : Int) < (l.length : Int) := by omega
        have hi2 : (i : Int) + 1 ≤ 16 := by omega
        have q0 := HC'.out.cell (HCE.out i hil).1
        have q1 := HC'.out.cell (HCE.out i hil).2
        have HS := hid (HSZ.out l[i] (List.getElem_mem hil))
        have HP := hid (PrA_succ M k l hil)
        have HIL := hid hil
        generalize l[i] = x at *
        obtain ⟨nm, va⟩ := x
        simp only at q0 q1
        clear hil
        have HSS := HS.out
        have hzw : w.heap.size ≤ wr.heap.size := HC'.out.size
        obtain ⟨Wb, hWb⟩ : ∃ Wb, Wb = (wr.alloc (.cells #[.string ⟨nm.toArray⟩, .string ⟨va.toArray⟩] 39)).drew := ⟨_, rfl⟩
        have bW : Below wr.heap.size wr Wb := by rw [hWb]; exact ((Below.refl _ wr).alloc (Nat.le_refl _) _).drew
        have xW : Wb.heap[wr.heap.size]? = some (.cells #[.string ⟨nm.toArray⟩, .string ⟨va.toArray⟩] 39 (0, 0)) := by rw [hWb]; exact heap_alloc_new wr _
        have CB : Hid (Ct T wr Wb) := hid (Ct.of_below bW)
        have IB := HI'.out.below bW
        have DB := ownsMap_below HD'.out bW
        have mkS : ∀ wx, Ct T Wb wx → wx.cell? ⟨g, 1, none⟩ = some (.map (some b1)) ∧ wx.cell? ⟨wr.heap.size, 0, none⟩ = some (.string ⟨nm.toArray⟩) ∧ wx.cell? ⟨wr.heap.size, 1, none⟩ = some (.string ⟨va.toArray⟩) := fun wx cx =>
          ⟨(HC'.out.trans (CB.out.trans cx)).cell HG1.out, cx.cell (held_cell (i := 0) xW rfl), cx.cell (held_cell (i := 1) xW rfl)⟩
        have UN := underN_ids Wb b1 (n + 3 * i) N' V' D1' _ IB nm HSS.1 (by have := HN.out.1; unfold maxLen; omega)
        have hzb : w.heap.size ≤ Wb.heap.size := Nat.le_trans hzw bW.size
        have hTb1 := HT.out.2.1
        have hlt0 := DB.lt
        have MK := hid mkS
        have SD := mkS Wb (Ct.refl _ _)
        clear mkS bW hzw xW
        go_upto_region 14 with fail
        have t14 := True.intro
        refine wp_region_L 12 (fun wS => wS.cell? ⟨g, 1, none⟩ = some (.map (some b1)) ∧ wS.cell? ⟨wr.heap.size, 0, none⟩ = some (.string ⟨nm.toArray⟩) ∧ wS.cell? ⟨wr.heap.size, 1, none⟩ = some (.string ⟨va.toArray⟩)) (by kernel_rfl) ?_
        rw [← hWb]
        clear hWb
        refine takeL (i := 0) (d := 48) (v := .pointer (some ⟨g, 0, none⟩)) rfl rfl (by kernel_rfl) (by kernel_rfl) (by kernel_rfl) (by kernel_rfl) (by kernel_rfl) (fun _ _ _ h => h) (Or.inl ⟨by rfl, fun wS hSw => by obtain ⟨s0, s1, s2⟩ := hSw; go_simp⟩) SD ?_
        try simp only [List.setIfInBounds_toArray, List.set_cons_zero, List.set_cons_succ]
        refine takeL (i := 1) (d := 49) (v := .pointer (some ⟨g, 0, none⟩)) rfl rfl (by kernel_rfl) (by kernel_rfl) (by kernel_rfl) (by kernel_rfl) (by kernel_rfl) (fun _ _ _ h => h) (Or.inl ⟨by rfl, fun wS hSw => by obtain ⟨s0, s1, s2⟩ := hSw; go_simp⟩) SD ?_
        try simp only [List.setIfInBounds_toArray, List.set_cons_zero, List.set_cons_succ]
        refine takeL (i := 2) (d := 50) (v := .pointer (some ⟨g, 1, none⟩)) rfl rfl (by kernel_rfl) (by kernel_rfl) (by kernel_rfl) (by kernel_rfl) (by kernel_rfl) (fun _ _ _ h => h) (Or.inl ⟨by rfl, fun wS hSw => by obtain ⟨s0, s1, s2⟩ := hSw; go_simp⟩) SD ?_
        try simp only [List.setIfInBounds_toArray, List.set_cons_zero, List.set_cons_succ]
        refine takeL (i := 3) (d := 51) (v := .map (some b1)) rfl rfl (by kernel_rfl) (by kernel_rfl) (by kernel_rfl) (by kernel_rfl) (by kernel_rfl) (fun _ _ _ h => h) (Or.inl ⟨by rfl, fun wS hSw => by obtain ⟨s0, s1, s2⟩ := hSw; go_simp⟩) SD ?_
        try simp only [List.setIfInBounds_toArray, List.set_cons_zero, List.set_cons_succ]
        refine takeL (i := 4) (d := 52) (v := .pointer (some ⟨wr.heap.size, 0, none⟩)) rfl rfl (by kernel_rfl) (by kernel_rfl) (by kernel_rfl) (by kernel_rfl) (by kernel_rfl) (fun _ _ _ h => h) (Or.inl ⟨by rfl, fun wS hSw => by obtain ⟨s0, s1, s2⟩ := hSw; go_simp⟩) SD ?_
        try simp only [List.setIfInBounds_toArray, List.set_cons_zero, List.set_cons_succ]
        refine takeL (i := 5) (d := 53) (v := .string ⟨nm.toArray⟩) rfl rfl (by kernel_rfl) (by kernel_rfl) (by kernel_rfl) (by kernel_rfl) (by kernel_rfl) (fun _ _ _ h => h) (Or.inl ⟨by rfl, fun wS hSw => by obtain ⟨s0, s1, s2⟩ := hSw; go_simp⟩) SD ?_
        try simp only [List.setIfInBounds_toArray, List.set_cons_zero, List.set_cons_succ]
        refine takeL (i := 7) (d := 55) (v := .pointer (some ⟨wr.heap.size, 1, none⟩)) rfl rfl (by kernel_rfl) (by kernel_rfl) (by kernel_rfl) (by kernel_rfl) (by kernel_rfl) (fun _ _ _ h => h) (Or.inl ⟨by rfl, fun wS hSw => by obtain ⟨s0, s1, s2⟩ := hSw; go_simp⟩) SD ?_
        try simp only [List.setIfInBounds_toArray, List.set_cons_zero, List.set_cons_succ]
        refine takeL (i := 8) (d := 56) (v := .string ⟨va.toArray⟩) rfl rfl (by kernel_rfl) (by kernel_rfl) (by kernel_rfl) (by kernel_rfl) (by kernel_rfl) (fun _ _ _ h => h) (Or.inl ⟨by rfl, fun wS hSw => by obtain ⟨s0, s1, s2⟩ := hSw; go_simp⟩) SD ?_
        try simp only [List.setIfInBounds_toArray, List.set_cons_zero, List.set_cons_succ]
        refine takeL (i := 10) (d := 58) (v := .int .i64 k) rfl rfl (by kernel_rfl) (by kernel_rfl) (by kernel_rfl) (by kernel_rfl) (by kernel_rfl) (fun _ _ _ h => h) (Or.inl ⟨by rfl, fun wS hSw => by obtain ⟨s0, s1, s2⟩ := hSw; go_simp⟩) SD ?_
        try simp only [List.setIfInBounds_toArray, List.set_cons_zero, List.set_cons_succ]
        refine takeL (i := 11) (d := 59) (v := .agg #[]) rfl rfl (by kernel_rfl) (by kernel_rfl) (by kernel_rfl) (by kernel_rfl) (by kernel_rfl) (fun _ _ _ h => h) (Or.inl ⟨by rfl, fun wS hSw => by obtain ⟨s0, s1, s2⟩ := hSw; go_simp⟩) SD ?_
        try simp only [List.setIfInBounds_toArray, List.set_cons_zero, List.set_cons_succ]
        refine readyL (rs := [6]) (by kernel_rfl) (by simp) ?_
        refine AllReadyL.cons rfl (fun K hK => ?_) AllReadyL.nil
        go_simp
        go_at_call 24
        refine UN.mono ?_
        rintro e wN ⟨bn, D1n, rfl, IN, hbn, gN⟩
        have cN : Ct T Wb wN := Ct.of_grown gN hTb1 (ownsMap_at IB.top)
        have hbn2 : bn ≠ b0 ∧ T bn := by
          rcases hbn with hb | ⟨_, rfl⟩
          · exact HL'.out.1 nm bn hb
          · exact ⟨by omega, HNW.out _ hzb⟩
        have DN := DB.kept gN (by have := HT.out.2.2; simpa using this)
        obtain ⟨_, _, D2n, ho2n, _⟩ := IN.mid nm bn (by unfold updN; simp)
        have mbn := ownsMap_at ho2n
        have UV := underV_ids wN b1 (n + 3 * i + 1) (updN N' nm bn) V' D1n _ IN nm va bn (by unfold updN; simp) HSS.2 (by have := HN.out.1; unfold maxLen; omega)
        refine hK.out _ _ (MK.out _ cN) ?_
        clear hK K UN
        try simp only [Act.put, List.setIfInBounds_toArray, List.set_cons_zero, List.set_cons_succ]
        refine readyL (rs := [9]) (by kernel_rfl) (by simp) ?_
        refine AllReadyL.cons rfl (fun K hK => ?_) AllReadyL.nil
        go_simp
        go_at_call 23
        refine UV.mono ?_
        rintro e wV ⟨bs, rfl, IV, hbs, gV⟩
        have cV : Ct T Wb wV := cN.trans (Ct.of_grown gV hbn2.2 mbn)
        have hbs2 : bs ≠ b0 ∧ T bs := by
          rcases hbs with hb | ⟨_, rfl⟩
          · exact HL'.out.2 nm va bs hb
          · exact ⟨by have := DN.lt; omega, HNW.out _ (Nat.le_trans hzb cN.size)⟩
        have DV := DN.kept gV (by have := hbn2.1; simpa using this.symm)
        obtain ⟨_, _, D3v, ho3v, _⟩ := IV.low nm va bs (by unfold updV; simp)
        obtain ⟨w2x, hup, IW, gW⟩ := put_ids wV b1 (n + 3 * i + 1 + 1) (updN N' nm bn) (updV V' nm va bs) D1n _ IV nm va bs (by unfold updV; simp) k HK.out.1 (by have := HN.out.1; unfold maxLen; omega)
        have cW : Ct T Wb w2x := cV.trans (Ct.of_grown gW hbs2.2 (ownsMap_at ho3v))
        have DW := hid (DV.kept gW (by have := hbs2.1; simpa using this.symm))
        refine hK.out _ _ (MK.out _ cV) ?_
        clear hK K UV
        try simp only [Act.put, List.setIfInBounds_toArray, List.set_cons_zero, List.set_cons_succ]
        refine readyL (rs := [12]) (by kernel_rfl) (by simp) ?_
        refine AllReadyL.last rfl (fun K hK => ?_)
        rw [if_pos (by rfl)]
        have HIW := hid (IW.congr HP.out)
        have HFW := hid ((HF'.out.put (nm := nm) (va := va) (bn := bn) (bs := bs) HK.out.1).congr HP.out)
        have HLW := hid (HL'.out.put (nm := nm) (va := va) hbn2 hbs2)
        have HCW := hid (HC'.out.trans (CB.out.trans cW))
        have HUW := hid ((CB.out.trans cW).rdL HU'.out)
        clear IW IV IN DB DN DV cN cV cW gN gV gW ho2n ho3v mbn hbn hbs hbn2 hbs2 IB
        go_simp
        refine hK.out _ _ ?_
        clear hK K hup
        refine doneL (by kernel_rfl) ?_
        go_wp2_with fail
        go_roundw
        case rel => exact ⟨i + 1, _, _, _, by go_num, hid HIL.out, hid (HIW.out.more (by omega)), HFW, HLW, DW, HCW, HUW⟩
        case measure => have := HIL.out; simp [intOf]; omega
      · have hii : ¬ (i : Int) < (l.length : Int) := by omega
        have hie : i = l.length := by have := hi.out; omega
        subst hie
        clear hil
        have eP : ∀ j x y, PrA M k l l.length j x y ↔ PrM (updM M k (some l)) j x y := fun j x y => by
          rw [PrM_add HM.out.1]
          unfold PrA
          rw [List.take_of_length_le (Nat.le_refl _)]
        have hlab : LbM T wr (D0.put (.int .i64 k) d) (updM M k (some l)) := by
          have im := HH.out.dom.isMap
          constructor
          · intro j hj
            unfold updM
            by_cases e : j = k
            · subst e
              rw [if_pos rfl, Maps.has_put_same im (k := .int .i64 j) trivial]
              simp
            · rw [if_neg e, Maps.has_put_other (by simpa using e)]
              exact HH.out.lab.1 j hj
          · intro j m hm
            unfold updM at hm
            by_cases e : j = k
            · rw [if_pos e] at hm
              injection hm with hm
              subst hm e
              exact ⟨HK.out.1, u', d, p, HU.out.1, Maps.atKey_put_same im (k := .int .i64 j) trivial _ _, HU'.out, HU.out.2.2, HM.out.2.1, hid0.1, hid0.2⟩
            · rw [if_neg e] at hm
              obtain ⟨hw, u2, d2, p2, e1, e2, e3, e4⟩ := HH.out.lab.2 j m hm
              exact ⟨hw, u2, d2, p2, e1, by rw [Maps.atKey_put_other (by simpa using e)]; exact e2, HC'.out.rdL e3, e4⟩
        have hsz2 : Maps.size (D0.put (.int .i64 k) d) ≤ 65536 := by
          rw [Maps.size_put (HH.out.dom.tidy (int_keyed Tryd.underlying3))]
          have := HM.out.2.2
          split <;> omega
        have FIN : Hid (Ix T wr (.pointer (some ⟨g, 0, none⟩)) (n + 64) (updM M k (some l))) := hid ⟨b0, b1, _, N', V', D1', ⟨HC'.out.at HH.out.hd, HH.out.ter, HD'.out.mono (by omega), (HI'.out.congr eP).more (by omega), HF'.out.congr eP, HL'.out, hlab, hsz2⟩⟩
        clear hlab eP hsz2
        go_wp2_with fail
        go_ret
        exact ⟨rfl, FIN.out, HC'.out⟩
end Go.Proofs.YtnlkipgjacgddaaDoor
