/-
  With: all numbers under a name. Conditions: those that each theorem names.
-/
import Derived.Test.YtnlkipgjacgddaaDoorIxq
import Derived.Maps.RangeWalk
namespace Go.Proofs.YtnlkipgjacgddaaDoor
open Go.RowKit Go.Maps Go.Icz Go.ChangeMaps Go.MapKept Go.WideShapes Go.Sort
attribute [local go_sem] Oper.semAt_some
set_option maxRecDepth 100000
set_option maxHeartbeats 4000000
theorem ranges_below {H : Type} {P : Program} {k : TypeId} {R : Value → Option (DataW H × List MemPlace)} {w w' : World} {b r n : Nat} {D : DataW H} {left : Lit → Bool} {cnt B : Nat} (h : w.ranges P k R b r n D left cnt) (hb : Below B w w') (h1 : b < B) (h2 : r < B) : w'.ranges P k R b r n D left cnt := by
  obtain ⟨es, clock, since, seen, c0, e1, e2, e3, e4, e5, e6⟩ := h
  exact ⟨es, clock, since, seen, c0, (hb.block b h1).trans e1, e2, e3, e4, (hb.block r h2).trans e5, e6⟩
theorem RdI.form_of {w : World} {B : Nat} {v : Value} {l : List Int} (h : w.ownsRow B 3 1 v l.length (l.map encZ)) : RdI w v l := OwnI.rd (B := B) (by unfold OwnI; exact h)
/-- What has come so far: the numbers of the values that came. -/
def Wi (M : Int → Option (List Lab)) (nm : List UInt8) (D2 : DataW Unit) (left : Lit → Bool) (acc : List Int) : Prop :=
  acc.Nodup ∧ (∀ x, x ∈ acc ↔ ∃ va, Maps.has D2 (.string va) = true ∧ left (.string va) = false ∧ PrM M x nm va) ∧ ∀ va, left (.string va) = true → Maps.has D2 (.string va) = true
theorem Wi.step {M : Int → Option (List Lab)} (hM : GoodM M) {nm : List UInt8} {D2 : DataW Unit} {left : Lit → Bool} {acc ss : List Int} {va : List UInt8} (h : Wi M nm D2 left acc) (hl : left (.string va) = true) (h1 : ss.Nodup) (h2 : ∀ x, x ∈ ss ↔ PrM M x nm va) :
    Wi M nm D2 (fun z => left z && !z.sameKey (.string va)) (acc ++ ss) := by
  have hh := h.2.2 va hl
  have one : ∀ x a b, PrM M x nm a → PrM M x nm b → a = b := fun x a b ⟨l, e1, m1⟩ ⟨l', e2, m2⟩ => by
    rw [e1] at e2
    injection e2 with e2
    subst e2
    exact one_value (hM x l e1).1 m1 m2
  refine ⟨List.nodup_append.2 ⟨h.1, h1, fun a ha b hb e => ?_⟩, fun x => ?_, fun y hy => ?_⟩
  · subst e
    obtain ⟨va', _, hl', hp'⟩ := (h.2.1 a).1 ha
    have := one a va' va hp' ((h2 a).1 hb)
    rw [this, hl] at hl'
    cases hl'
  · rw [List.mem_append, h.2.1 x, h2 x]
    constructor
    · rintro (⟨va', e1, e2, e3⟩ | hp)
      · exact ⟨va', e1, by simp [e2], e3⟩
      · exact ⟨va, hh, by simp [Lit.sameKey], hp⟩
    · rintro ⟨va', e1, e2, e3⟩
      by_cases e : va' = va
      · subst e; exact .inr e3
      · refine .inl ⟨va', e1, ?_, e3⟩
        cases hc : left (.string va') with
        | false => rfl
        | true =>
          replace e2 : (left (.string va') && !(Lit.string va').sameKey (.string va)) = false := e2
          rw [hc] at e2
          simp [Lit.sameKey] at e2
          exact absurd e2 e
  · cases hc : left (.string y) with
    | true => exact h.2.2 y hc
    | false =>
      replace hy : (left (.string y) && !(Lit.string y).sameKey (.string va)) = true := hy
      rw [hc] at hy
      simp at hy
theorem With_no (T : Nat → Prop) (v : Value) (nm : List UInt8) (b0 b1 n : Nat) (D0 : DataW Unit) (N : NmMap) (V : VaMap) (D1 : DataW Unit) (M : Int → Option (List Lab)) (w : World) (h : IxI T w v b0 b1 n D0 N V D1 M) (hl : nm.length ≤ 9223372036854775807) (hN : N nm = none) :
    Calls Tryd.prog 14 #[v, .string ⟨nm.toArray⟩] w fun e w' => ∃ u r, e = .returned u ∧ OwnI w' w.heap.size u r ∧ Rises r (fun k => ∃ va, PrM M k nm va) ∧ r.length ≤ 65536 ∧ Below w.heap.size w w' := by
  have ht := h.ids.topAt nm
  rw [hN] at ht
  have hL := looked_is v b0 b1 w h.hd
  have hF1 := idx_g1 b0 b1
  have hLK := fun w1 (b : Below w.heap.size w w1) => lookN_no (bsz nm hl) (ownsMap_below h.ids.top b) (by rw [tl_nm]; exact ht)
  have hno : ∀ k, ¬ ∃ va, PrM M k nm va := fun k ⟨va, hp⟩ => h.ids.lowNo nm va (h.ids.midNo nm hN va) k hp
  have hRG := fun w1 => run_range_nilMap (P := Tryd.prog) w1 _ _ _ Tryd.underlying53
  have hNX := run_next_nilMap (P := Tryd.prog)
  have hR := fun w1 n (hn : w1.heap.size = n) => rising_nil w1 n hn
  have HNO := hid hno
  have HLK := hid hLK
  clear h hN ht hno hLK
  go_enter Tryd.func14, Tryd.ntmps14
  go_wp2_with (first
    | (go_at_call 26; refine hL.mono ?_; rintro e w1 ⟨rfl, b1x⟩; have k1 := HLK.out w1 b1x; have B1 := hid b1x; clear hL b1x)
    | fail)
  go_loopw [5] (fun x wr => x = .slice none 0 0 ∧ wr = w1.alloc (.mapIter none 0 #[] 0)) (fun _ _ => 0)
  case atStart => exact ⟨rfl, rfl⟩
  case round =>
    obtain ⟨rfl, rfl⟩ := hrel
    go_wp2_with (first
      | (go_at_call 28; refine (hR _ _ (by simp)).mono ?_; rintro e w2 ⟨v2, l2, rfl, o2, _, hl2, b2⟩)
      | fail)
    go_ret
    obtain rfl : l2 = [] := List.length_eq_zero_iff.1 (by omega)
    have bb := below_push (below_push b2)
    refine ⟨v2, [], rfl, o2.mono (Nat.le_trans B1.out.size (by simp; omega)), ⟨List.Pairwise.nil, fun x => ⟨fun c => (by cases c), fun c => absurd c (HNO.out x)⟩⟩, by simp, B1.out.trans (bb.mono B1.out.size)⟩
theorem With_yes (T : Nat → Prop) (v : Value) (nm : List UInt8) (b0 b1 n bn : Nat) (D0 : DataW Unit) (N : NmMap) (V : VaMap) (D1 : DataW Unit) (M : Int → Option (List Lab)) (w : World) (h : IxI T w v b0 b1 n D0 N V D1 M) (hgd : GoodM M) (hl : nm.length ≤ 9223372036854775807) (hn : n ≤ 4398046511104) (hN : N nm = some bn) :
    Calls Tryd.prog 14 #[v, .string ⟨nm.toArray⟩] w fun e w' => ∃ u r, e = .returned u ∧ OwnI w' w.heap.size u r ∧ Rises r (fun k => ∃ va, PrM M k nm va) ∧ r.length ≤ 65536 ∧ Below w.heap.size w w' := by
  have ht := h.ids.topAt nm
  rw [hN] at ht
  obtain ⟨_, _, D2, ho2, hD2, hH2⟩ := h.ids.mid nm bn hN
  have hL := looked_is v b0 b1 w h.hd
  have hF1 := idx_g1 b0 b1
  have hLK := fun w1 (b : Below w.heap.size w w1) => lookN (bsz nm hl) (ownsMap_below h.ids.top b) (by rw [tl_nm]; exact ht)
  have hRG := fun w1 (b : Below w.heap.size w w1) => (ownsMap_below ho2 b).range (string_keyed Tryd.underlying9) Tryd.underlying53
  have hbn := ho2.lt
  -- the numbers are few
  have few : ∀ acc : List Int, acc.Nodup → (∀ x ∈ acc, ∃ va, PrM M x nm va) → acc.length ≤ 65536 := fun acc h1 h2 => by
    refine Nat.le_trans (nodup_len h1 (b := intKeys D0) (fun x hx => ?_)) ?_
    · obtain ⟨va, l, e, _⟩ := h2 x hx
      have hh := (h.lab.1 x (h.lab.2 x l e).1).2 (by rw [e]; simp)
      obtain ⟨es, hD, _, _⟩ := h.dom.entries (int_keyed Tryd.underlying3)
      obtain ⟨es', hD', hko⟩ := h.dom.keysOf
      obtain rfl : es = es' := by rw [hD] at hD'; simpa using hD'
      subst hD
      rw [has_eq, List.any_eq_true] at hh
      obtain ⟨p, hp, hs⟩ := hh
      obtain ⟨v2, hv2⟩ := hko p hp
      obtain ⟨y, _, hy, _⟩ := Maps.keyOf_i64 Tryd.underlying3 hv2
      show x ∈ es.map fun p => Go.intOf p.1
      rw [List.mem_map]
      exact ⟨p, hp, by rw [hy] at hs ⊢; simpa [Lit.sameKey, Go.intOf, eq_comm] using hs⟩
    · have hf := h.few
      obtain ⟨es', hD', _⟩ := h.dom.keysOf
      subst hD'
      simpa [intKeys, Maps.size] using hf
  have one : ∀ va, Maps.has D2 (.string va) = true → ∃ bs D3, V nm va = some bs ∧ w.ownsMap Tryd.prog 3 unitElem bs n D3 ∧ (∀ k, (Lit.int .i64 k).wf = true → (Maps.has D3 (.int .i64 k) = true ↔ PrM M k nm va)) ∧ D2.atKey (.string va) .nil = .lit (.int .i64 bs) := fun va hh => by
    cases hc : V nm va with
    | none => exact absurd hc (hH2 va hh)
    | some bs =>
      obtain ⟨_, _, D3, ho3, hD3⟩ := h.ids.low nm va bs hc
      exact ⟨bs, D3, rfl, ho3, hD3, by rw [hD2 va, hc]; rfl⟩
  have hwf : ∀ k va, PrM M k nm va → (Lit.int .i64 k).wf = true := fun k va ⟨l, e, _⟩ => (h.lab.2 k l e).1
  have hall : ∀ k va, PrM M k nm va → Maps.has D2 (.string va) = true := fun k va hp => (h.ids.vals h.full hD2 hH2 va).2 ⟨k, hp⟩
  have AP : ∀ (wr : World) (B : Nat) (acc : List Int) (s : Value) (bs : Nat) (D3 : DataW Unit), wr.ownsMap Tryd.prog 3 unitElem bs n D3 → B ≤ wr.heap.size → wr.ownsRow B 3 1 s acc.length (acc.map encZ) → acc.length ≤ 65536 →
      Calls Tryd.prog 29 #[s, .func (.func 45) #[] #[.pointer (some ⟨wr.heap.size, 0, none⟩)]] (wr.alloc (.cells #[.map (some bs)] 54)) fun e w' => ∃ (u : Value) (ss : List Int), e = .returned u ∧ ss.Perm (intKeys D3) ∧ w'.ownsRow B 3 1 u (acc ++ ss).length ((acc ++ ss).map encZ) ∧ Below B (wr.alloc (.cells #[.map (some bs)] 54)) w' := fun wr B acc s bs D3 ho3 hB hrow hlen => by
    have h3 := ho3.size_le
    have hseq : ∀ w', Below (wr.alloc (.cells #[.map (some bs)] 54)).heap.size (wr.alloc (.cells #[.map (some bs)] 54)) w' → SeqGives Fence.wide 2 Tryd.prog 45 #[.pointer (some ⟨wr.heap.size, 0, none⟩)] encZ (fun ss : List Int => ss.Perm (intKeys D3)) (Maps.size D3) w' := fun w' b => by
      have b0 : Below wr.heap.size wr (wr.alloc (.cells #[.map (some bs)] 54)) := (Below.refl _ _).alloc (Nat.le_refl _) _
      exact AnyZI.keys_gives (ρ := Tryd.keysB_ren) { Tryd.keysB with } Fence.wide _ trivial rfl (by omega) wr.heap.size bs n D3 _ (Nat.lt_of_lt_of_le (by simp) b.size) ((b.cell (p := ⟨wr.heap.size, 0, none⟩) (by simp)).trans (by simp)) (ownsMap_below (ownsMap_below ho3 b0) b)
    have c := appendSeq_onto (ρ := Tryd.sortedI_ren) { Tryd.sortedI with } Fence.wide 3 trivial rfl (by omega) 45 #[.pointer (some ⟨wr.heap.size, 0, none⟩)] trivial (enters_of Tryd.func45 (by kernel_rfl) rfl) (fun ss : List Int => ss.Perm (intKeys D3)) (Maps.size D3) B acc s (wr.alloc (.cells #[.map (some bs)] 54)) (by simp; omega) (by omega) (hrow.alloc _) hseq
    exact (callsIn_wide (n := 3)).1 c
  have KY : ∀ (wr : World) (bs : Nat), Calls Tryd.prog 30 #[.map (some bs)] wr fun e w' => e = .returned (.func (.func 45) #[] #[.pointer (some ⟨wr.heap.size, 0, none⟩)]) ∧ w' = wr.alloc (.cells #[.map (some bs)] 54) := fun wr bs => (callsIn_wide (n := 5)).1 (AnyZI.keys_in Tryd.keysB Fence.wide 5 trivial rfl (some bs) wr)
  have RI : ∀ (acc : List Int) (s : Value) (w1 : World), RdI w1 s acc → acc.length ≤ 65536 → ∀ m, w1.heap.size = m → Calls Tryd.prog 28 #[.slice (some ⟨m, 0, none⟩) 1 1] (w1.alloc (.cells #[s] 34)) (RiseOut (w1.alloc (.cells #[s] 34)) (fun x => x ∈ acc) acc.length) := fun acc s w1 hr hl m hm => by
    subst hm
    have h9 := rising_is _ [acc] _ (RdSS.one hr) (by simp) (by simp; omega)
    simpa using h9
  have HAP := hid AP
  have HKY := hid KY
  have HRI := hid RI
  have HLK := hid hLK
  have HRG := hid hRG
  have HONE := hid one
  have HFEW := hid few
  have HWF := hid (And.intro hwf hall)
  have HBN := hid hbn
  have HO2 := hid ho2
  have HGD := hid hgd
  clear AP KY RI hLK hRG one few hwf hall hbn ho2 hgd hD2 hH2 ht hN h
  go_enter Tryd.func14, Tryd.ntmps14
  go_wp2_with (first
    | (go_at_call 26; refine hL.mono ?_; rintro e w1 ⟨rfl, c1⟩; have k1 := HLK.out w1 c1; obtain ⟨w2, hrg, rr, gg, sz⟩ := HRG.out w1 c1; have B1 := hid c1; have HRR := hid rr; have HGG := hid (And.intro gg sz); clear hL c1 rr gg sz)
    | fail)
  have b12 : Below w.heap.size w w2 := B1.out.grown HGG.out.1 B1.out.size (fun k hk => by cases hk)
  have B2 := hid b12
  have hz : w2.heap.size = w1.heap.size + 1 := HGG.out.2
  have HZ := hid (And.intro hz (And.intro B1.out.size HBN.out))
  clear b12 hz k1 hrg hF1
  go_loopw [5, 7] (fun av _ wr => ∃ (left : Lit → Bool) (cnt : Nat) (acc : List Int), Hid (wr.ranges Tryd.prog 9 rMap bn w1.heap.size n D2 left cnt) ∧ Hid (wr.ownsRow w2.heap.size 3 1 av acc.length (acc.map encZ)) ∧ Hid (Below w.heap.size w wr) ∧ Hid (w2.heap.size ≤ wr.heap.size) ∧ Hid (Wi M nm D2 left acc)) (fun _ _ wr => wr.rangeLeft bn w1.heap.size)
  case atStart => exact ⟨_, _, [], HRR, hid ⟨rfl, .inl ⟨rfl, rfl⟩⟩, B2, hid (Nat.le_refl _), hid ⟨List.nodup_nil, fun x => ⟨fun c => (by cases c), fun ⟨va, h1, h2, _⟩ => (by rw [h1] at h2; cases h2)⟩, fun va hv => hv⟩⟩
  case round =>
    obtain ⟨left, cnt, acc, HR, HO, HB, HS, HW⟩ := hrel
    have hm := hid HR.out.left_eq
    have hln : acc.length ≤ 65536 := HFEW.out acc HW.out.1 (fun x hx => by obtain ⟨va, _, _, hp⟩ := (HW.out.2.1 x).1 hx; exact ⟨va, hp⟩)
    have HLN := hid hln
    rcases HR.out.next (string_keyed Tryd.underlying9) 0 with ⟨h0, hall0, hrun⟩ | ⟨key, v2, kl0, y, w', cnt', hkey, hlk, hv, hat, hrun, hrg2, hlt', hgr, hsz', hen⟩
    · have hri := RdI.form_of (w := wr) HO.out
      have HRI2 := fun m hm => HRI.out acc _ wr hri hln m hm
      obtain ⟨A5, c5, hu5, -, -⟩ := id hri
      subst hu5
      have HEND : Hid (∀ x, x ∈ acc ↔ ∃ va, PrM M x nm va) := hid (fun x => by
        rw [HW.out.2.1 x]
        constructor
        · rintro ⟨va, _, _, hp⟩; exact ⟨va, hp⟩
        · rintro ⟨va, hp⟩; exact ⟨va, HWF.out.2 x va hp, hall0 _, hp⟩)
      clear hln h0 hall0
      go_wp2_with (first
        | (go_at_call 28; go_loud (refine (HRI2 _ rfl).mono ?_; rintro e w9 ⟨v9, l9, rfl, o9, r9, hl9, b9⟩))
        | fail)
      go_ret
      have bb := below_push b9
      refine ⟨v9, l9, rfl, o9.mono (Nat.le_trans HB.out.size (by simp)), r9.congr HEND.out, Nat.le_trans hl9 HLN.out, HB.out.trans (bb.mono HB.out.size)⟩
    · obtain ⟨x, rfl, rfl, hx⟩ := Maps.keyOf_str Tryd.underlying9 hkey
      obtain ⟨bs, D3, hV, ho3, hD3, hat3⟩ := HONE.out x (HW.out.2.2 x hlk)
      have hv3 : v2 = .map (some bs) := by
        rcases rMap_inv hv with ⟨_, e⟩ | ⟨b', rfl, e⟩
        · have := hat .nil
          rw [e, hat3] at this
          cases this
        · have := hat .nil
          rw [e, hat3] at this
          simp at this
          rw [show b' = bs by omega]
      subst hv3
      have hrz : w.heap.size ≤ w1.heap.size := HZ.out.2.1
      have B' : Below w.heap.size w w' := HB.out.grown hgr HB.out.size (fun k hk => by injection hk with hk; omega)
      have ho3' := ownsMap_below ho3 B'
      have own' : w'.ownsRow w2.heap.size 3 1 u5 acc.length (acc.map encZ) := by
        refine World.ownsRow.kept HO.out hgr ?_
        cases hb : u5.ownBlock with
        | none => exact .inl rfl
        | some j => exact .inr (fun e => by
            injection e with e
            have h1 := (World.ownsRow.lt HO.out j hb).1
            have h2 := HZ.out.1
            omega)
      have hS' : w2.heap.size ≤ w'.heap.size := by rw [hsz']; exact HS.out
      have AP' := HAP.out w' w2.heap.size acc u5 bs D3 ho3' hS' own' hln
      have KY' := HKY.out w' bs
      have HN := hid (And.intro hrg2 (And.intro hlt' (And.intro B' (And.intro hS' (And.intro hlk (And.intro hD3 ho3))))))
      clear hrg2 hlt' hgr hsz' ho3' own' hS' B' hD3 ho3 hat hat3 hv hkey hlk hln hV hx hrz
      go_wp2_with (first
        | (go_at_call 30; refine KY'.mono ?_; rintro e w8 ⟨rfl, rfl⟩; clear KY')
        | (go_at_call 29; refine AP'.mono ?_; rintro e w9 ⟨u9, ss, rfl, hp9, hrow9, b9⟩; clear AP')
        | fail)
      go_roundw
      case rel =>
        have bb : Below w2.heap.size w' w9 := below_allocT HN.out.2.2.2.1 b9
        have h1 := HZ.out.1
        have h2 := HZ.out.2.2
        have h3 := HZ.out.2.1
        have hmemI : ∀ z, z ∈ intKeys D3 ↔ Maps.has D3 (.int .i64 z) = true := fun z => by
          obtain ⟨r1, _⟩ := keysI_rises HN.out.2.2.2.2.2.2 (int_keyed Tryd.underlying3) Tryd.underlying3 (List.Perm.refl (intKeys D3))
          have := r1.2 z
          rwa [List.mem_mergeSort] at this
        have hndI : ss.Nodup := by
          obtain ⟨r1, _⟩ := keysI_rises HN.out.2.2.2.2.2.2 (int_keyed Tryd.underlying3) Tryd.underlying3 (List.Perm.refl (intKeys D3))
          have h5 : (intKeys D3).Nodup := (List.mergeSort_perm (intKeys D3) (fun x y => decide (x ≤ y))).nodup_iff.1 (r1.1.imp (fun h => by omega))
          exact hp9.nodup_iff.2 h5
        have hmm : ∀ z, z ∈ ss ↔ PrM M z nm x := fun z => by
          rw [hp9.mem_iff, hmemI z]
          constructor
          · intro hz
            exact (HN.out.2.2.2.2.2.1 z (intKeys_wf HN.out.2.2.2.2.2.2 Tryd.underlying3 z ((hmemI z).2 hz))).1 hz
          · intro hz
            exact (HN.out.2.2.2.2.2.1 z (HWF.out.1 z x hz)).2 hz
        exact ⟨_, cnt', acc ++ ss, hid (ranges_below HN.out.1 bb (by omega) (by omega)), hid hrow9, hid (HN.out.2.2.1.trans (bb.mono (by omega))), hid (Nat.le_trans HN.out.2.2.2.1 bb.size), hid (HW.out.step HGD.out HN.out.2.2.2.2.1 hndI hmm)⟩
      case measure =>
        have bb : Below w2.heap.size w' w9 := below_allocT HN.out.2.2.2.1 b9
        have h1 := HZ.out.1
        have h2 := HZ.out.2.2
        have h3 := HZ.out.2.1
        rw [hm.out, (ranges_below HN.out.1 bb (by omega) (by omega)).left_eq]
        exact HN.out.2.1
theorem With_ix (T : Nat → Prop) (v : Value) (nm : List UInt8) (n : Nat) (M : Int → Option (List Lab)) (w : World) (h : Ix T w v n M) (hl : nm.length ≤ 9223372036854775807) (hn : n ≤ 4398046511104) :
    Calls Tryd.prog 14 #[v, .string ⟨nm.toArray⟩] w fun e w' => ∃ u r, e = .returned u ∧ OwnI w' w.heap.size u r ∧ Rises r (fun k => ∃ va, PrM M k nm va) ∧ r.length ≤ 65536 ∧ Below w.heap.size w w' := by
  have hgd := h.good
  obtain ⟨b0, b1, D0, N, V, D1, h⟩ := h
  cases hN : N nm with
  | none => exact With_no T v nm b0 b1 n D0 N V D1 M w h hl hN
  | some bn => exact With_yes T v nm b0 b1 n bn D0 N V D1 M w h hgd hl hn hN
end Go.Proofs.YtnlkipgjacgddaaDoor
