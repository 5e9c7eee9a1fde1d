/-
  Remove where it finds: the number has no labels from then on. Conditions: those that each theorem names.
-/
import Derived.Test.YtnlkipgjacgddaaDoorIxa
namespace Go.Proofs.YtnlkipgjacgddaaDoor
open Go.RowKit Go.Maps Go.Icz Go.ChangeMaps Go.MapKept Go.WideShapes
attribute [local go_sem] Oper.semAt_some
set_option maxRecDepth 100000
set_option maxHeartbeats 4000000
theorem chain_up : ∀ (l : List Lab) (p : Option B8), chain p l = true → (∀ q, p = some q → ∀ x ∈ l, Lib.compareBytes q x.1 < 0) ∧ l.Pairwise (fun x y => Lib.compareBytes x.1 y.1 < 0)
  | [], p, _ => ⟨fun q _ x hx => (by simp at hx), List.Pairwise.nil⟩
  | y :: t, p, h => by
    simp only [chain, Bool.and_eq_true] at h
    obtain ⟨h1, h2⟩ := chain_up t (some y.1) h.2
    refine ⟨fun q hq x hx => ?_, List.pairwise_cons.2 ⟨fun x hx => h1 y.1 rfl x hx, h2⟩⟩
    have h3 : Lib.compareBytes q y.1 < 0 := by
      have h9 := h.1.2
      rw [hq] at h9
      simpa [less_iff] using h9
    rcases List.mem_cons.1 hx with rfl | hx
    · exact h3
    · have h4 := h1 y.1 rfl x hx
      have h5 := bytesCmp.le q y.1 x.1 (by omega) (by omega)
      have h6 : Lib.compareBytes q x.1 ≠ 0 := fun e => by
        have e2 := (bytesCmp.eq _ _).1 e
        have h7 := bytesCmp.neg q y.1
        rw [← e2] at h4
        omega
      omega
theorem names_apart {l : List Lab} (h : rightS l = true) {i j : Nat} (hij : i < j) (hj : j < l.length) : (l[i]'(by omega)).1 ≠ l[j].1 := by
  unfold rightS at h
  rw [Bool.and_eq_true] at h
  have hp := (chain_up l none h.2).2
  rw [List.pairwise_iff_getElem] at hp
  intro e
  have := hp i j (by omega) hj hij
  rw [e, (bytesCmp.eq _ _).2 rfl] at this
  omega
theorem one_value {l : List Lab} (h : rightS l = true) {nm va va' : List UInt8} (h1 : (nm, va) ∈ l) (h2 : (nm, va') ∈ l) : va = va' := by
  obtain ⟨i, hi, ei⟩ := List.getElem_of_mem h1
  obtain ⟨j, hj, ej⟩ := List.getElem_of_mem h2
  rcases Nat.lt_trichotomy i j with hij | hij | hij
  · have := names_apart h hij hj
    rw [ei, ej] at this
    exact absurd rfl this
  · subst hij
    rw [ei] at ej
    injection ej
  · have := names_apart h hij hi
    rw [ei, ej] at this
    exact absurd rfl this
/-- The pairs that are left when i labels have gone. -/
def PrR (M : Int → Option (List Lab)) (k : Int) (l : List Lab) (i : Nat) : Rel3 := fun j x y => PrM M j x y ∧ ¬ (j = k ∧ (x, y) ∈ l.take i)
theorem PrR_zero (M : Int → Option (List Lab)) (k : Int) (l : List Lab) (j : Int) (x y : List UInt8) : PrM M j x y ↔ PrR M k l 0 j x y := by unfold PrR; simp
theorem PrR_succ (M : Int → Option (List Lab)) (k : Int) (l : List Lab) {i : Nat} (hi : i < l.length) (j : Int) (x y : List UInt8) : (PrR M k l i j x y ∧ ¬ (j = k ∧ x = l[i].1 ∧ y = l[i].2)) ↔ PrR M k l (i + 1) j x y := by
  unfold PrR
  rw [List.take_succ_eq_append_getElem hi]
  simp only [List.mem_append, List.mem_singleton, Prod.ext_iff]
  constructor
  · rintro ⟨⟨h1, h2⟩, h3⟩
    exact ⟨h1, fun ⟨e, h⟩ => h.elim (fun h => h2 ⟨e, h⟩) (fun h => h3 ⟨e, h⟩)⟩
  · rintro ⟨h1, h2⟩
    exact ⟨⟨h1, fun ⟨e, h⟩ => h2 ⟨e, .inl h⟩⟩, fun ⟨e, h⟩ => h2 ⟨e, .inr h⟩⟩
theorem PrR_has {M : Int → Option (List Lab)} {k : Int} {l : List Lab} (hM : M k = some l) (hr : rightS l = true) {i : Nat} (hi : i < l.length) : PrR M k l i k l[i].1 l[i].2 := by
  refine ⟨⟨l, hM, by have := List.getElem_mem hi; exact this⟩, fun ⟨_, h⟩ => ?_⟩
  obtain ⟨j, hj, e⟩ := List.getElem_of_mem h
  rw [List.length_take] at hj
  rw [List.getElem_take] at e
  exact names_apart hr (show j < i by omega) hi (by rw [e])
theorem PrR_end {M : Int → Option (List Lab)} {k : Int} {l : List Lab} (hM : M k = some l) (j : Int) (x y : List UInt8) : PrR M k l l.length j x y ↔ PrM (updM M k none) j x y := by
  unfold PrR PrM updM
  rw [List.take_of_length_le (Nat.le_refl _)]
  by_cases e : j = k
  · subst e
    simp [hM]
  · simp [e]
theorem blk_ne {D : DataW Unit} {va : List UInt8} {o : Option Nat} (h : D.atKey (.string va) .nil = blkD o) (hh : Maps.has D (.string va) = false) : o = none := by
  cases o with
  | none => rfl
  | some b =>
    exfalso
    have h2 : ∀ zd, D.atKey (.string va) zd = zd := fun zd => Maps.atKey_of_not_has hh zd
    rw [h2] at h
    cases h
theorem Full.take {N : NmMap} {V V2 : VaMap} {N2 : NmMap} {Pr Pr2 : Rel3} {nm va : List UInt8} (h : Full N V Pr)
    (hN : ∀ x, N2 x ≠ none → N x ≠ none ∧ (x = nm → ∃ y, V2 x y ≠ none)) (hV0 : ∀ x y, V2 x y ≠ none → V x y ≠ none) (hV1 : ∀ x y, ¬ (x = nm ∧ y = va) → V x y ≠ none → V2 x y ≠ none) (hP : ∀ k x y, ¬ (x = nm ∧ y = va) → Pr k x y → Pr2 k x y) (hS : V2 nm va ≠ none → ∃ k, (Lit.int .i64 k).wf = true ∧ Pr2 k nm va) : Full N2 V2 Pr2 := by
  constructor
  · intro x hx
    by_cases e : x = nm
    · exact (hN x hx).2 e
    · obtain ⟨y, hy⟩ := h.1 x (hN x hx).1
      exact ⟨y, hV1 x y (fun c => e c.1) hy⟩
  · intro x y hxy
    by_cases e : x = nm ∧ y = va
    · obtain ⟨rfl, rfl⟩ := e
      exact hS hxy
    · obtain ⟨k, hk, hp⟩ := h.2 x y (hV0 x y hxy)
      exact ⟨k, hk, hP k x y e hp⟩
theorem Rem_yes (T : Nat → Prop) (v : Value) (k : Int) (l : List Lab) (b0 b1 n : Nat) (D0 : DataW Unit) (N : NmMap) (V : VaMap) (D1 : DataW Unit) (M : Int → Option (List Lab)) (w : World) (h : IxI T w v b0 b1 n D0 N V D1 M) (hM : M k = some l) (hsz : ∀ x ∈ l, x.1.length ≤ 9223372036854775807 ∧ x.2.length ≤ 9223372036854775807) :
    Calls Tryd.prog 6 #[v, .int .i64 k] w fun e w' => e = .returned (.int .i64 0) ∧ Ix T w' v n (updM M k none) ∧ Ct T w w' := by
  obtain ⟨hk, u, d, p, hu1, hu2, hR, hu4, hrt, hk0, hk1⟩ := h.lab.2 k l hM
  have hh : Maps.has D0 (.int .i64 k) = true := (h.lab.1 k hk).2 (by rw [hM]; simp)
  have hT := there_is v k b0 b1 n D0 w hk h.hd h.dom
  rw [hh, if_pos rfl] at hT
  have hLk := lookL hk h.dom hu1 hu2
  obtain ⟨hl1, hl2⟩ := rightS_pos hrt
  obtain ⟨g, hv, hgl, g0, g1⟩ := h.hd
  obtain ⟨tb0, tb1, tne, -⟩ := h.ter
  obtain ⟨A, c, rfl, hlc, hcell⟩ := hR
  obtain ⟨ab, ao, rfl, hab, hcl⟩ := hcell (by omega)
  have HH := hid h
  have HT := hid (And.intro tb0 (And.intro tb1 tne))
  have HM := hid (And.intro hM (And.intro hrt hk))
  have HG0 := hid g0
  have HG1 := hid g1
  have HCE := hid hcl
  have HSZ := hid hsz
  have hl16 : l.length ≤ 16 := hl2
  subst hv
  clear hh hu1 hu2 hu4 hl1 hl2 hgl g1 tb0 tb1 tne hcell hcl hlc hab hsz hM hrt h hk0 hk1
  go_enter Tryd.func6, Tryd.ntmps6
  go_wp2_with (first
    | (go_at_call 19; refine hT.mono ?_; rintro e w1 ⟨rfl, hw⟩; rw [hw]; clear hT hw))
  clear hLk
  go_loopw [7, 8, 22] (fun _ _ iv wr => ∃ (i : Nat) (N' : NmMap) (V' : VaMap) (D1' : DataW Unit), iv = .int .i64 (i : Int) ∧ Hid (i ≤ l.length) ∧ Hid (Ids 0 wr b1 n N' V' D1' (PrR M k l i)) ∧ Hid (Full N' V' (PrR M k l i)) ∧ Hid (Lv T b0 N' V') ∧ Hid (wr.ownsMap Tryd.prog 3 rSl b0 n D0) ∧ Hid (Ct T w wr)) (fun _ _ iv _ => l.length - (intOf iv).toNat)
  case atStart => exact ⟨0, N, V, D1, rfl, hid (Nat.zero_le _), hid (HH.out.ids.congr (PrR_zero M k l)), hid (HH.out.full.congr (PrR_zero M k l)), hid HH.out.lv, hid HH.out.dom, hid (Ct.refl _ _)⟩
  case round =>
    obtain ⟨i, N', V', D1', rfl, hi, HI', HF', HL', HD', HC'⟩ := hrel
    by_cases hil : i < l.length
    · have hii : (i : Int) < (l.length : Int) := by omega
      have hi2 : (i : Int) + 1 ≤ 16 := by omega
      have q0 := HC'.out.cell (HCE.out i hil).1
      have q1 := HC'.out.cell (HCE.out i hil).2
      have HS := hid (HSZ.out l[i] (List.getElem_mem hil))
      have HP := hid (PrR_succ M k l hil)
      have HPH := hid (PrR_has HM.out.1 HM.out.2.1 hil)
      have HIL := hid hil
      generalize l[i] = x at *
      obtain ⟨nm, va⟩ := x
      simp only at q0 q1
      clear hil
      go_upto_region 7 with fail
      obtain ⟨Wb, hWb⟩ : ∃ Wb, Wb = (wr.alloc (.cells #[.string ⟨nm.toArray⟩, .string ⟨va.toArray⟩] 39)).drew := ⟨_, rfl⟩
      have bW : Below wr.heap.size wr Wb := by rw [hWb]; exact ((Below.refl _ wr).alloc (Nat.le_refl _) _).drew
      have xW : Wb.heap[wr.heap.size]? = some (.cells #[.string ⟨nm.toArray⟩, .string ⟨va.toArray⟩] 39 (0, 0)) := by rw [hWb]; exact heap_alloc_new wr _
      have CB : Hid (Ct T wr Wb) := hid (Ct.of_below bW)
      have IB := HI'.out.below bW
      have DB := ownsMap_below HD'.out bW
      have mkS : ∀ wx, Ct T Wb wx → wx.cell? ⟨g, 1, none⟩ = some (.map (some b1)) ∧ wx.cell? ⟨wr.heap.size, 0, none⟩ = some (.string ⟨nm.toArray⟩) ∧ wx.cell? ⟨wr.heap.size, 1, none⟩ = some (.string ⟨va.toArray⟩) := fun wx cx =>
        ⟨(HC'.out.trans (CB.out.trans cx)).cell HG1.out, cx.cell (held_cell (i := 0) xW rfl), cx.cell (held_cell (i := 1) xW rfl)⟩
      obtain ⟨bs, hV⟩ : ∃ bs, V' nm va = some bs := by
        cases hc : V' nm va with
        | none => exact absurd HPH.out (HI'.out.lowNo nm va hc k)
        | some b => exact ⟨b, rfl⟩
      obtain ⟨bn, hN⟩ : ∃ bn, N' nm = some bn := by
        cases hc : N' nm with
        | none => rw [HI'.out.midNo nm hc va] at hV; cases hV
        | some b => exact ⟨b, rfl⟩
      have tbn := HL'.out.1 nm bn hN
      have tbs := HL'.out.2 nm va bs hV
      obtain ⟨_, _, D2b, ho2b, hD2b, _⟩ := IB.mid nm bn hN
      obtain ⟨_, _, D3b, ho3b, _⟩ := IB.low nm va bs hV
      have lk1 := lookN (bsz nm HS.out.1) IB.top (by rw [show (⟨nm.toArray⟩ : ByteArray).data.toList = nm by simp, IB.topAt nm, hN]; rfl)
      have lk2 := lookV (bsz va HS.out.2) ho2b (by rw [show (⟨va.toArray⟩ : ByteArray).data.toList = va by simp, hD2b va, hV]; rfl)
      obtain ⟨w1, del1, I1, gr1⟩ := take_ids Wb b1 n N' V' D1' _ IB nm va bs hV k HM.out.2.2 0
      have c1 : Ct T Wb w1 := Ct.of_grown gr1 tbs.2 (ownsMap_at ho3b)
      have DD1 := DB.kept gr1 (by have := tbs.1; simpa using this.symm)
      obtain ⟨_, _, D2c, ho2c, hD2c, hH2c⟩ := I1.mid nm bn hN
      obtain ⟨_, _, D3c, ho3c, hD3c⟩ := I1.low nm va bs hV
      have lk3 := lookV (bsz va HS.out.2) ho2c (by rw [show (⟨va.toArray⟩ : ByteArray).data.toList = va by simp, hD2c va, hV]; rfl)
      have len3 := fun ty => ho3c.len Tryd.underlying54 ty
      have S0 := mkS Wb (Ct.refl _ _)
      have S1 := mkS w1 c1
      have HSB : Hid ((Wb.cell? ⟨g, 1, none⟩ = some (.map (some b1)) ∧ Wb.cell? ⟨wr.heap.size, 0, none⟩ = some (.string ⟨nm.toArray⟩) ∧ Wb.cell? ⟨wr.heap.size, 1, none⟩ = some (.string ⟨va.toArray⟩) ∧ (Instr.lookup 47 (.map (some b1)) (.string ⟨nm.toArray⟩) false).run Tryd.prog Wb = .ok (.map (some bn)) Wb)) := hid ⟨S0.1, S0.2.1, S0.2.2, lk1⟩
      have q11 := S1.2.2
      have q10 := S0.2.2
      have HLK2 := hid lk2
      have HDEL := hid del1
      have HMK := hid mkS
      -- what is left of the set
      have hwfP : ∀ j, ¬ (Lit.int .i64 j).wf = true → ¬ PrR M k l i j nm va := fun j hj hp => by
        obtain ⟨m, hm, _⟩ := hp.1
        exact hj (HH.out.lab.2 j m hm).1
      have e3 : Maps.size D3c = 0 → ∀ j, ¬ (PrR M k l i j nm va ∧ ¬ (j = k ∧ nm = nm ∧ va = va)) := fun h0 j hp => by
        by_cases hj : (Lit.int .i64 j).wf = true
        · have := (hD3c j hj).2 hp
          rw [size_zero ho3c h0] at this
          cases this
        · exact hwfP j hj hp.1
      have n3 : Maps.size D3c ≠ 0 → ∃ j, (Lit.int .i64 j).wf = true ∧ (PrR M k l i j nm va ∧ ¬ (j = k ∧ nm = nm ∧ va = va)) := fun h0 => by
        obtain ⟨j, hj, hp⟩ := size_int ho3c Tryd.underlying3 h0
        exact ⟨j, hj, (hD3c j hj).1 hp⟩
      have HE3 := hid e3
      have HN3 := hid n3
      have HI1 := hid I1
      have HC1 := hid c1
      have HD1 := hid DD1
      have HNV := hid (And.intro hN hV)
      have HTB := hid (And.intro tbn tbs)
      obtain ⟨sz3, hsz3⟩ : ∃ sz3 : Nat, sz3 = Maps.size D3c := ⟨_, rfl⟩
      rw [← hsz3] at len3 e3 n3
      have HZ3 := hid hsz3
      refine wp_region_L 7 (fun wS => wS.cell? ⟨g, 1, none⟩ = some (.map (some b1)) ∧ wS.cell? ⟨wr.heap.size, 0, none⟩ = some (.string ⟨nm.toArray⟩) ∧ wS.cell? ⟨wr.heap.size, 1, none⟩ = some (.string ⟨va.toArray⟩) ∧ (Instr.lookup 47 (.map (some b1)) (.string ⟨nm.toArray⟩) false).run Tryd.prog wS = .ok (.map (some bn)) wS) (by kernel_rfl) ?_
      rw [← hWb]
      clear hWb q0 q1 g0
      refine takeL (i := 0) (d := 26) (v := .pointer (some ⟨g, 0, none⟩)) rfl rfl (by kernel_rfl) (by kernel_rfl) (by kernel_rfl) (by kernel_rfl) (by kernel_rfl) (fun _ _ _ h => h) (Or.inl ⟨by rfl, fun wS hSw => by obtain ⟨s0, s1, s2, s3⟩ := hSw; go_simp⟩) HSB.out ?_
      try simp only [List.setIfInBounds_toArray, List.set_cons_zero, List.set_cons_succ]
      refine takeL (i := 1) (d := 27) (v := .pointer (some ⟨g, 0, none⟩)) rfl rfl (by kernel_rfl) (by kernel_rfl) (by kernel_rfl) (by kernel_rfl) (by kernel_rfl) (fun _ _ _ h => h) (Or.inl ⟨by rfl, fun wS hSw => by obtain ⟨s0, s1, s2, s3⟩ := hSw; go_simp⟩) HSB.out ?_
      try simp only [List.setIfInBounds_toArray, List.set_cons_zero, List.set_cons_succ]
      refine takeL (i := 2) (d := 28) (v := .pointer (some ⟨g, 1, none⟩)) rfl rfl (by kernel_rfl) (by kernel_rfl) (by kernel_rfl) (by kernel_rfl) (by kernel_rfl) (fun _ _ _ h => h) (Or.inl ⟨by rfl, fun wS hSw => by obtain ⟨s0, s1, s2, s3⟩ := hSw; go_simp⟩) HSB.out ?_
      try simp only [List.setIfInBounds_toArray, List.set_cons_zero, List.set_cons_succ]
      refine takeL (i := 3) (d := 29) (v := .map (some b1)) rfl rfl (by kernel_rfl) (by kernel_rfl) (by kernel_rfl) (by kernel_rfl) (by kernel_rfl) (fun _ _ _ h => h) (Or.inl ⟨by rfl, fun wS hSw => by obtain ⟨s0, s1, s2, s3⟩ := hSw; go_simp⟩) HSB.out ?_
      try simp only [List.setIfInBounds_toArray, List.set_cons_zero, List.set_cons_succ]
      refine takeL (i := 4) (d := 30) (v := .pointer (some ⟨wr.heap.size, 0, none⟩)) rfl rfl (by kernel_rfl) (by kernel_rfl) (by kernel_rfl) (by kernel_rfl) (by kernel_rfl) (fun _ _ _ h => h) (Or.inl ⟨by rfl, fun wS hSw => by obtain ⟨s0, s1, s2, s3⟩ := hSw; go_simp⟩) HSB.out ?_
      try simp only [List.setIfInBounds_toArray, List.set_cons_zero, List.set_cons_succ]
      refine takeL (i := 5) (d := 31) (v := .string ⟨nm.toArray⟩) rfl rfl (by kernel_rfl) (by kernel_rfl) (by kernel_rfl) (by kernel_rfl) (by kernel_rfl) (fun _ _ _ h => h) (Or.inl ⟨by rfl, fun wS hSw => by obtain ⟨s0, s1, s2, s3⟩ := hSw; go_simp⟩) HSB.out ?_
      try simp only [List.setIfInBounds_toArray, List.set_cons_zero, List.set_cons_succ]
      refine takeL (i := 6) (d := 32) (v := .map (some bn)) rfl rfl (by kernel_rfl) (by kernel_rfl) (by kernel_rfl) (by kernel_rfl) (by kernel_rfl) (fun _ _ _ h => h) (Or.inl ⟨by rfl, fun wS hSw => by obtain ⟨s0, s1, s2, s3⟩ := hSw; go_simp⟩) HSB.out ?_
      try simp only [List.setIfInBounds_toArray, List.set_cons_zero, List.set_cons_succ]
      refine readyL (rs := [7]) (by kernel_rfl) (by simp) ?_
      refine AllReadyL.last rfl (fun K hK => ?_)
      try rw [if_pos (by rfl)]
      go_simp
      refine hK.out _ _ ?_
      clear hK K
      refine doneL (by kernel_rfl) ?_
      clear S0 S1 lk1 e3 n3 I1 c1 DD1 gr1 hN hV tbn tbs ho2b ho3b hD2b ho2c hD2c hH2c ho3c hD3c mkS xW bW IB DB hsz3 hwfP
      by_cases h3 : sz3 = 0
      · have z3 : ((sz3 : Int) == 0) = true := by simp [h3]
        obtain ⟨w2, drop2, I2, gr2⟩ := dropV_ids w1 b1 n N' V' D1' _ HI1.out nm va bn HNV.out.1 (fun j hj => HE3.out (by rw [← HZ3.out]; exact h3) j hj) HS.out.2 0
        obtain ⟨_, _, D2e, ho2e, _⟩ := HI1.out.mid nm bn HNV.out.1
        have C2 : Hid (Ct T Wb w2) := hid (HC1.out.trans (Ct.of_grown gr2 HTB.out.1.2 (ownsMap_at ho2e)))
        have DD2 : Hid (w2.ownsMap Tryd.prog 3 rSl b0 n D0) := hid (HD1.out.kept gr2 (by have := HTB.out.1.1; simpa using this.symm))
        have S2 := HMK.out w2 C2.out
        obtain ⟨_, _, D2d, ho2d, hD2d, hH2d⟩ := I2.mid nm bn HNV.out.1
        have len2 := fun ty => ho2d.len Tryd.underlying53 ty
        have HE2 : Hid (Maps.size D2d = 0 → ∀ y, (if nm = nm ∧ y = va then none else V' nm y) = none) := hid (fun h0 y => blk_ne (hD2d y) (size_zero ho2d h0 _))
        have HN2 : Hid (Maps.size D2d ≠ 0 → ∃ y, (if nm = nm ∧ y = va then none else V' nm y) ≠ none) := hid (fun h0 => by
          obtain ⟨y, hy⟩ := size_str ho2d Tryd.underlying9 h0
          exact ⟨y, hH2d y hy⟩)
        obtain ⟨sz2, hsz2⟩ : ∃ sz2 : Nat, sz2 = Maps.size D2d := ⟨_, rfl⟩
        rw [← hsz2] at len2 HE2 HN2
        have HI2 := hid I2
        have q12 := S2.2.2
        have q02 := S2.2.1
        have HS2 := hid S2
        have hV0 : ∀ x y, (if x = nm ∧ y = va then none else V' x y) ≠ none → V' x y ≠ none := fun x y => by
          split
          · intro c; exact absurd rfl c
          · exact id
        have hV1 : ∀ x y, ¬ (x = nm ∧ y = va) → V' x y ≠ none → (if x = nm ∧ y = va then none else V' x y) ≠ none := fun x y c hv => by rw [if_neg c]; exact hv
        have hPP : ∀ j x y, ¬ (x = nm ∧ y = va) → PrR M k l i j x y → PrR M k l (i + 1) j x y := fun j x y c hp => (HP.out j x y).1 ⟨hp, fun q => c q.2⟩
        have hSS : (if nm = nm ∧ va = va then none else V' nm va) ≠ none → ∃ j, (Lit.int .i64 j).wf = true ∧ PrR M k l (i + 1) j nm va := fun c => by rw [if_pos ⟨rfl, rfl⟩] at c; exact absurd rfl c
        have HVV := hid (And.intro hV0 (And.intro hV1 (And.intro hPP hSS)))
        have HLV2 : Hid (∀ x y b, (if x = nm ∧ y = va then none else V' x y) = some b → b ≠ b0 ∧ T b) := hid (fun x y b e => by
          split at e
          · cases e
          · exact HL'.out.2 x y b e)
        clear hV0 hV1 hPP hSS S2 I2 gr2 ho2d hD2d hH2d ho2e hsz2 h3
        by_cases h2 : sz2 = 0
        · have z2 : ((sz2 : Int) == 0) = true := by simp [h2]
          have no2 := HE2.out h2
          obtain ⟨w3, D13, drop3, I3, gr3⟩ := dropN_ids w2.drew b1 n N' _ D1' _ (HI2.out.below (Below.refl _ _).drew) nm no2 HS.out.1 0
          have mtop := ownsMap_at (HI2.out.below (Below.refl _ _).drew).top
          have C3 : Hid (Ct T Wb w3) := hid ((C2.out.trans (Ct.of_below (Below.refl _ _).drew)).trans (Ct.of_grown gr3 HT.out.2.1 mtop))
          have DD3 : Hid (w3.ownsMap Tryd.prog 3 rSl b0 n D0) := hid ((ownsMap_below DD2.out (Below.refl _ _).drew).kept gr3 (by have := HT.out.2.2; simpa using this))
          have HI3 := hid I3
          have SX : w2.drew.cell? ⟨g, 1, none⟩ = some (.map (some b1)) ∧ w2.drew.cell? ⟨wr.heap.size, 0, none⟩ = some (.string ⟨nm.toArray⟩) ∧ w2.drew.cell? ⟨wr.heap.size, 1, none⟩ = some (.string ⟨va.toArray⟩) := HS2.out
          have HSX := hid SX
          have HDR := hid drop3
          clear I3 gr3 mtop drop3 SX h2 no2
          go_upto_region 12 with fail
          refine wp_region_L 6 (fun wS => wS.cell? ⟨g, 1, none⟩ = some (.map (some b1)) ∧ wS.cell? ⟨wr.heap.size, 0, none⟩ = some (.string ⟨nm.toArray⟩) ∧ wS.cell? ⟨wr.heap.size, 1, none⟩ = some (.string ⟨va.toArray⟩)) (by kernel_rfl) ?_
          refine takeL (i := 0) (d := 50) (v := .pointer (some ⟨g, 0, none⟩)) rfl rfl (by kernel_rfl) (by kernel_rfl) (by kernel_rfl) (by kernel_rfl) (by kernel_rfl) (fun _ _ _ h => h) (Or.inl ⟨by rfl, fun wS hSw => by obtain ⟨s0, s1, s2⟩ := hSw; go_simp⟩) HSX.out ?_
          try simp only [List.setIfInBounds_toArray, List.set_cons_zero, List.set_cons_succ]
          refine takeL (i := 1) (d := 51) (v := .pointer (some ⟨g, 0, none⟩)) rfl rfl (by kernel_rfl) (by kernel_rfl) (by kernel_rfl) (by kernel_rfl) (by kernel_rfl) (fun _ _ _ h => h) (Or.inl ⟨by rfl, fun wS hSw => by obtain ⟨s0, s1, s2⟩ := hSw; go_simp⟩) HSX.out ?_
          try simp only [List.setIfInBounds_toArray, List.set_cons_zero, List.set_cons_succ]
          refine takeL (i := 2) (d := 52) (v := .pointer (some ⟨g, 1, none⟩)) rfl rfl (by kernel_rfl) (by kernel_rfl) (by kernel_rfl) (by kernel_rfl) (by kernel_rfl) (fun _ _ _ h => h) (Or.inl ⟨by rfl, fun wS hSw => by obtain ⟨s0, s1, s2⟩ := hSw; go_simp⟩) HSX.out ?_
          try simp only [List.setIfInBounds_toArray, List.set_cons_zero, List.set_cons_succ]
          refine takeL (i := 3) (d := 53) (v := .map (some b1)) rfl rfl (by kernel_rfl) (by kernel_rfl) (by kernel_rfl) (by kernel_rfl) (by kernel_rfl) (fun _ _ _ h => h) (Or.inl ⟨by rfl, fun wS hSw => by obtain ⟨s0, s1, s2⟩ := hSw; go_simp⟩) HSX.out ?_
          try simp only [List.setIfInBounds_toArray, List.set_cons_zero, List.set_cons_succ]
          refine takeL (i := 4) (d := 54) (v := .pointer (some ⟨wr.heap.size, 0, none⟩)) rfl rfl (by kernel_rfl) (by kernel_rfl) (by kernel_rfl) (by kernel_rfl) (by kernel_rfl) (fun _ _ _ h => h) (Or.inl ⟨by rfl, fun wS hSw => by obtain ⟨s0, s1, s2⟩ := hSw; go_simp⟩) HSX.out ?_
          try simp only [List.setIfInBounds_toArray, List.set_cons_zero, List.set_cons_succ]
          refine takeL (i := 5) (d := 55) (v := .string ⟨nm.toArray⟩) rfl rfl (by kernel_rfl) (by kernel_rfl) (by kernel_rfl) (by kernel_rfl) (by kernel_rfl) (fun _ _ _ h => h) (Or.inl ⟨by rfl, fun wS hSw => by obtain ⟨s0, s1, s2⟩ := hSw; go_simp⟩) HSX.out ?_
          try simp only [List.setIfInBounds_toArray, List.set_cons_zero, List.set_cons_succ]
          refine readyL (rs := [6]) (by kernel_rfl) (by simp) ?_
          refine AllReadyL.last rfl (fun K hK => ?_)
          have dr3 := HDR.out
          try rw [if_pos (by rfl)]
          go_simp
          refine hK.out _ _ ?_
          clear hK K dr3
          refine doneL (by kernel_rfl) ?_
          go_wp2_with fail
          go_roundw
          case rel => exact ⟨i + 1, _, _, D13, by go_num, hid HIL.out, hid (HI3.out.congr HP.out), hid (HF'.out.take (nm := nm) (va := va) (fun x hx => by
              by_cases e : x = nm
              · rw [if_pos e] at hx; exact absurd rfl hx
              · rw [if_neg e] at hx; exact ⟨hx, fun c => absurd c e⟩) HVV.out.1 HVV.out.2.1 HVV.out.2.2.1 HVV.out.2.2.2), hid ⟨fun x b e => by
              replace e : (if x = nm then none else N' x) = some b := e
              split at e
              · cases e
              · exact HL'.out.1 x b e, HLV2.out⟩, DD3, hid (HC'.out.trans (CB.out.trans C3.out))⟩
          case measure => have := HIL.out; simp [intOf]; omega
        · have z2 : ((sz2 : Int) == 0) = false := by simp [h2]
          have HY2 := hid (HN2.out h2)
          clear h2
          go_wp2_with fail
          go_roundw
          case rel => exact ⟨i + 1, N', _, D1', by go_num, hid HIL.out, hid (HI2.out.congr HP.out), hid (HF'.out.take (nm := nm) (va := va) (fun x hx => ⟨hx, fun e => by subst e; exact HY2.out⟩) HVV.out.1 HVV.out.2.1 HVV.out.2.2.1 HVV.out.2.2.2), hid ⟨HL'.out.1, HLV2.out⟩, DD2, hid (HC'.out.trans (CB.out.trans C2.out))⟩
          case measure => have := HIL.out; simp [intOf]; omega
      · have z3 : ((sz3 : Int) == 0) = false := by simp [h3]
        obtain ⟨j3, hj3, hp3⟩ := HN3.out (by rw [← HZ3.out]; exact h3)
        have HJ3 : Hid (∃ j, (Lit.int .i64 j).wf = true ∧ PrR M k l (i + 1) j nm va) := hid ⟨j3, hj3, (HP.out j3 nm va).1 hp3⟩
        obtain ⟨_, _, D2d, ho2d, hD2d, hH2d⟩ := HI1.out.mid nm bn HNV.out.1
        have len2 := fun ty => ho2d.len Tryd.underlying53 ty
        have h2 : Maps.size D2d ≠ 0 := fun h0 => by
          have := blk_ne (hD2d va) (size_zero ho2d h0 _)
          rw [HNV.out.2] at this
          cases this
        obtain ⟨sz2, hsz2⟩ : ∃ sz2 : Nat, sz2 = Maps.size D2d := ⟨_, rfl⟩
        rw [← hsz2] at len2 h2
        have z2 : ((sz2 : Int) == 0) = false := by simp [h2]
        clear ho2d hD2d hH2d hsz2 h2 h3 hp3 hj3
        go_wp2_with fail
        go_roundw
        case rel => exact ⟨i + 1, N', V', D1', by go_num, hid HIL.out, hid (HI1.out.congr HP.out), hid (HF'.out.take (nm := nm) (va := va) (fun x hx => ⟨hx, fun e => by subst e; exact ⟨va, by rw [HNV.out.2]; simp⟩⟩) (fun x y h => h) (fun x y _ h => h) (fun j x y c hp => (HP.out j x y).1 ⟨hp, fun q => c q.2⟩) (fun _ => HJ3.out)), HL', HD1, hid (HC'.out.trans (CB.out.trans HC1.out))⟩
        case measure => have := HIL.out; simp [intOf]; omega
    · have hii : ¬ (i : Int) < (l.length : Int) := by omega
      have hie : i = l.length := by have := hi.out; omega
      subst hie
      clear hil
      obtain ⟨w9, del9, hown9, htu9⟩ := HD'.out.drop (int_keyed Tryd.underlying3) Tryd.underlying46 (keyI HM.out.2.2) 0
      have c9 : Ct T w w9 := HC'.out.trans (Ct.of_grown htu9.grown HT.out.1 (ownsMap_at HD'.out))
      have eP := PrR_end HM.out.1
      have I9 := ((HI'.out.grown htu9.grown (fun e => HT.out.2.2 e.symm) (fun nm b e => (HL'.out.1 nm b e).1) (fun nm va b e => (HL'.out.2 nm va b e).1)).congr eP)
      have hlab : LbM T w9 (D0.del (.int .i64 k)) (updM M k none) := by
        constructor
        · intro j hj
          unfold updM
          by_cases e : j = k
          · subst e
            rw [if_pos rfl, Maps.has_del_same]
            simp
          · rw [if_neg e, Maps.has_del_other (by simpa using e)]
            exact HH.out.lab.1 j hj
        · intro j m hm
          unfold updM at hm
          by_cases e : j = k
          · rw [if_pos e] at hm
            cases hm
          · rw [if_neg e] at hm
            obtain ⟨hw, u2, d2, p2, e1, e2, e3, e4⟩ := HH.out.lab.2 j m hm
            exact ⟨hw, u2, d2, p2, e1, by rw [Maps.atKey_del_other (by simpa using e)]; exact e2, c9.rdL e3, e4⟩
      have hsz2 : Maps.size (D0.del (.int .i64 k)) ≤ 65536 := by
        have h1 := Maps.size_del (k := .int .i64 k) (HH.out.dom.tidy (int_keyed Tryd.underlying3))
        have h2 := HH.out.few
        omega
      have FIN : Hid (Ix T w9 (.pointer (some ⟨g, 0, none⟩)) n (updM M k none)) := hid ⟨b0, b1, _, N', V', D1', ⟨c9.at HH.out.hd, HH.out.ter, hown9, I9, HF'.out.congr eP, HL'.out, hlab, hsz2⟩⟩
      have C9 := hid c9
      have qg := HC'.out.cell HG0.out
      clear hlab eP hsz2 c9 I9 hown9 htu9 g0
      go_wp2_with fail
      go_ret
      exact ⟨rfl, FIN.out, C9.out⟩
end Go.Proofs.YtnlkipgjacgddaaDoor
