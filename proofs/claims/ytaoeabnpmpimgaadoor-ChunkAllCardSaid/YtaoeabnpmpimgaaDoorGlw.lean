/-
  chunk.Group: the entries as chunks. Conditions: the entries can be read; sizes as the theorem names.
  The reference's Group: the entries that may be, each number once, sorted. Conditions: those that the theorems name.
  ChunkGroups: the law's walk. Conditions: those that each theorem names.
-/
import Derived.Test.YtaoeabnpmpimgaaDoorGrg
import Derived.Test.YtaoeabnpmpimgaaDoorLrc
import Derived.Test.YtaoeabnpmpimgaaDoorEntRef
import Derived.Test.YtaoeabnpmpimgaaDoorHsn
import Derived.Test.YtaoeabnpmpimgaaDoorHkn
import Derived.Test.YtaoeabnpmpimgaaDoorEntAll2
import Derived.Test.YtaoeabnpmpimgaaDoorEntSames
section
namespace Go.Icz
open Go.RowKit
theorem RowE.rdV {w : World} {g cap : Nat} {X : List EV} (h : RowE w g X) (hc : X.length ≤ cap) : RdV w (.slice (some ⟨g, 0, none⟩) X.length cap) X :=
  ⟨some ⟨g, 0, none⟩, cap, rfl, hc, fun _ => ⟨g, 0, rfl, h.1, fun j hj => by
    have := h.2 j hj
    rw [Nat.zero_add]
    exact ⟨this.1, this.2.1, this.2.2.1, this.2.2.2.1⟩⟩⟩
theorem RowE.rdAt {w : World} {g cap : Nat} {X : List EV} (h : RowE w g X) (hc : X.length ≤ cap) (k e c' : Nat) (hk : k + e ≤ X.length) (hc' : e ≤ c') : RdV w (.slice (some ⟨g, k * 4, none⟩) e c') ((X.drop k).take e) := by
  have hl : ((X.drop k).take e).length = e := by rw [List.length_take, List.length_drop]; omega
  refine ⟨some ⟨g, k * 4, none⟩, c', by rw [hl], by rw [hl]; exact hc', fun _ => ⟨g, k * 4, rfl, h.1, fun j hj => ?_⟩⟩
  rw [hl] at hj
  have := h.2 (k + j) (by omega)
  have e1 : ((X.drop k).take e)[j]'(by rw [hl]; exact hj) = X[k + j]'(by omega) := by simp
  rw [e1, show k * 4 + j * 4 = (k + j) * 4 by omega]
  exact ⟨this.1, this.2.1, this.2.2.1, this.2.2.2.1⟩
theorem SortedOwn.val {l : List Ent} {w w' : World} {e : Ending} (h : SortedOwn l w e w') : ∃ v, e = .returned v ∧ Below w.heap.size w w' ∧ ((l = [] ∧ v = .slice none 0 0) ∨ ∃ g cap M, v = .slice (some ⟨g, 0, none⟩) M.length cap ∧ M.length ≤ cap ∧ w.heap.size ≤ g ∧ RowE w' g M ∧ (∀ p ∈ M, LabAt w' g p) ∧ StableOf ltT l (M.map (·.1)) ∧ (M.map (·.1)).length = l.length) := by
  obtain ⟨hb, (⟨h1, rfl⟩ | ⟨g, cap, M, rfl, h2⟩)⟩ := h
  · exact ⟨_, rfl, hb, .inl ⟨h1, rfl⟩⟩
  · exact ⟨_, rfl, hb, .inr ⟨g, cap, M, rfl, h2⟩⟩
end Go.Icz
namespace Go.Proofs.YtaoeabnpmpimgaaDoor
open Go.RowKit Go.Icz
def GrOut (l : List Ent) (w : World) (e : Ending) (w' : World) : Prop := ∃ u m, e = .returned u ∧ OwC 39 KRw w' w.heap.size u m ∧ GrOf l (m.map CV.bare) ∧ Below w.heap.size w w'
set_option maxHeartbeats 8000000 in
set_option maxRecDepth 100000 in
theorem Group_is (v : Value) (l : List Ent) (w : World) (hR : RdE w v l) (hT : Tabs w) (hz : ∀ x ∈ l, entZ x) (hwf : ∀ x ∈ l, wfI x.seq) (hlen : l.length * 56 ≤ 140737488351232) :
    Calls Tryd.prog 7 #[v] w (GrOut l w) := by
  obtain ⟨X, hX, hV, hL⟩ := hR.places
  have hXl : X.length = l.length := by rw [← hX, List.length_map]
  have hmX : ∀ p ∈ X, p.1 ∈ l := fun p hp => by rw [← hX]; exact List.mem_map.2 ⟨p, hp, rfl⟩
  have hCt := counted_is v X w hV hL hT (fun p hp => hz _ (hmX p hp)) (fun p hp => hwf _ (hmX p hp)) (by omega)
  have hgl : (gdV X).length ≤ l.length := by have := gdV_len X; omega
  have hge : (gdV X).map (·.1) = gd l := by rw [gd_of, hX]
  have hSo : ∀ w1 u1, Below w.heap.size w w1 → KEnt.Own w1 w.heap.size u1 (gdV X) → Calls Tryd.prog 20 #[u1] w1 (SortedOwn (gd l) w1) := fun w1 u1 b1 o1 => by
    have hr := RdV.rdE (OwnV.ofKent o1).rd (fun p hp => (hL p (gdV_mem X p hp).1).below b1)
    rw [hge] at hr
    refine RSortO_is u1 (gd l) w1 hr (fun x hx => ?_) (by rw [← hge, List.length_map]; omega)
    rw [← hge] at hx
    obtain ⟨p, hp, rfl⟩ := List.mem_map.1 hx
    exact hz _ (hmX p (gdV_mem X p hp).1)
  have hlz : ∀ x ∈ gd l, x.labs.length * 32 ≤ 140737488351232 := fun x hx => by
    rw [← hge] at hx
    obtain ⟨p, hp, rfl⟩ := List.mem_map.1 hx
    exact (hz _ (hmX p (gdV_mem X p hp).1)).1
  have HLZ := hid hlz
  have HGL : Hid ((gd l).length * 56 ≤ 140737488351232) := hid (by rw [← hge, List.length_map]; omega)
  obtain ⟨A0, c0, hv0, _⟩ := hV
  subst hv0
  clear hR hX hL hXl hmX hgl hz hwf hlen hT hge hlz
  have hSN := fun w1 => sortStableN_none 23 w1
  unfold cmpG at hSN
  go_enter Tryd.func7, Tryd.ntmps7
  go_upto_region 2 with (first
    | (go_at_call 21; refine hCt.mono ?_; rintro e w1 ⟨u1, rfl, o1, b1⟩; have hS1 := hSo _ _ b1 o1; clear hCt hSo o1)
    | (go_at_call 20; refine hS1.mono ?_; intro e w2 h2; obtain ⟨v2, rfl, b2, h2⟩ := h2.val; clear hS1))
  have bw2 := b1.trans (b2.mono b1.size)
  have hb1z := b1.size
  clear b1 b2
  rcases h2 with ⟨hg0, rfl⟩ | ⟨g, cap, M, rfl, hMc, hgz, hrow, hlab, hst, hsl⟩
  · have FIN : Hid (GrOf l []) := hid ⟨[], [], by rw [hg0]; exact StableOf.refl .nil, by rw [hg0], StableOf.refl .nil, rfl, rfl⟩
    clear hg0
    go_wp2_with (first
      | (go_at_call 22; refine (hSN _).mono ?_; rintro e w3 ⟨rfl, b3⟩; have b3' := bw2.trans (b3.mono bw2.size); clear hSN)
      | fail)
    go_loopw [3, 4] (fun sv ov wr => sv = .slice none 0 0 ∧ ov = .slice none 0 0 ∧ Below w.heap.size w wr) (fun _ _ _ => 0)
    case atStart => exact ⟨rfl, rfl, b3'⟩
    case round =>
      obtain ⟨rfl, rfl, hbw⟩ := hrel
      go_wp2_with fail
      go_ret
      exact ⟨_, [], rfl, OwC.nil _ _ _ _, FIN.out, hbw⟩
  · have hMl : M.length = (gd l).length := by rw [← hsl, List.length_map]
    have hML : M.length * 56 ≤ 140737488351232 := by have := HGL.out; omega
    have hlz : ∀ p ∈ M, p.1.labs.length * 32 ≤ 140737488351232 := fun p hp => HLZ.out _ ((hst.mem ltT_ord).1 (List.mem_map.2 ⟨p, hp, rfl⟩))
    have hS3 := sortStableN_is g cap M.length M w2 rfl ⟨hrow, fun p hp => (hlab p hp).labW (by have := hlz p hp; omega)⟩ (by omega)
    unfold cmpG at hS3
    have HM := hid (And.intro hst (And.intro hsl hlz))
    have hgl2 := hrow.1
    clear hSN hrow hlab hst hsl hlz hMl
    go_upto_region 3 with (go_at_call 22; refine hS3.mono ?_; rintro e w3 ⟨rfl, ⟨T, hT3, sT⟩, g3⟩; clear hS3)
    have hTl : T.length = M.length := StableOf.length ltEL_ord sT
    have bw3 : Below w.heap.size w w3 := bw2.grown g3 bw2.size (fun k hk => by injection hk with hk; have := bw2.size; omega)
    have hlz : ∀ p ∈ T, p.1.labs.length * 32 ≤ 140737488351232 := fun p hp => HM.out.2.2 p ((sT.mem ltEL_ord).1 hp)
    obtain ⟨CH, hCH⟩ : ∃ CH, CH = chsOf (runs T.length (T.map (·.1))) := ⟨_, rfl⟩
    have FIN : Hid (GrOf l CH) := hid ⟨M.map (·.1), T.map (·.1), HM.out.1, HM.out.2.1, stableM_of sT, by rw [List.length_map, List.length_map, hTl], by rw [hCH, List.length_map]⟩
    have HCH := hid hCH
    have hg3 := Nat.lt_of_lt_of_le hgl2 g3.size
    rw [← hTl] at hMc hML ⊢
    have HT3 := hid hT3
    have HTZ := hid hlz
    have HBW := hid bw3
    clear sT hCH hT3 hlz g3 bw2 hgl2 hTl bw3 HM hgz
    go_wp2_with fail
    go_loopw [3, 4] (fun sv ov wr => ∃ (k o : Nat) (m : List CV), sv = .slice (some ⟨g, o, none⟩) (T.length - k) (cap - k) ∧ Hid (k ≤ T.length ∧ (k < T.length → o = k * 4)) ∧ Hid (OwC 39 KRw wr w3.heap.size ov m) ∧ Hid (m.map CV.bare ++ chsOf (runs (T.drop k).length ((T.drop k).map (·.1))) = CH ∧ m.length ≤ k) ∧ Hid (Below w3.heap.size w3 wr)) (fun sv _ _ => match sv with | .slice _ n _ => n | _ => 0)
    case atStart => exact ⟨0, 0, [], by simp, hid ⟨Nat.zero_le _, fun _ => by simp⟩, hid (OwC.nil _ _ _ _), hid ⟨by rw [HCH.out]; simp, Nat.le_refl _⟩, hid (Below.refl _ _)⟩
    case round =>
      obtain ⟨k, o, m, rfl, hk, HO, HC, HW⟩ := hrel
      by_cases hil : k < T.length
      · obtain rfl := hk.out.2 hil
        have hRl : (T.drop k).length = T.length - k := List.length_drop
        have hcons : T.drop k = T[k] :: T.drop (k + 1) := List.drop_eq_getElem_cons hil
        obtain ⟨s1, s2, s3⟩ := runs_step T[k] (T.drop (k + 1))
        rw [← hcons, hRl] at s1
        rw [← hcons] at s2 s3
        have HT3w := HT3.out.below (w' := wr) HW.out
        have hSt := streamLength_is (T.drop k) (some ⟨g, k * 4, none⟩) (cap - k) wr (by have h9 := HT3w.1.rdAt (cap := cap) hMc k (T.length - k) (cap - k) (by omega) (by omega); rw [List.take_of_length_le (by omega)] at h9; rw [hRl]; exact h9) (fun p hp => ⟨(HT3w.2 p (List.mem_of_mem_drop hp)).rd, (HT3w.2 p (List.mem_of_mem_drop hp)).1⟩) (by omega)
        rw [hRl] at hSt
        obtain ⟨e, he⟩ : ∃ e, e = strN (T.drop k) := ⟨_, rfl⟩
        rw [← he] at s1 s2 s3 hSt
        have hml : ((T.drop k).take e).length = e := by rw [List.length_take, hRl]; omega
        have hRO := fun wx (b : Below w3.heap.size w3 wx) => rowsOf_is (.slice (some ⟨g, k * 4, none⟩) e (cap - k)) ((T.drop k).take e) wx ((HT3.out.below b).1.rdAt (cap := cap) hMc k e (cap - k) (by omega) (by omega)) (by rw [hml]; omega)
        rw [hml] at hRO
        have hkm := List.getElem_mem hil
        have hPc := fun wx (b : Below w3.heap.size w3 wx) A2 c2 (hr : KRw.Rd wx (.slice A2 (((T.drop k).take e).map rowOf).length c2) (((T.drop k).take e).map rowOf)) => pieces_is T[k].1.labs (((T.drop k).take e).map rowOf) T[k].2.1 A2 T[k].2.2 c2 1000 wx ((HT3.out.below b).2 _ hkm).rd hr (HTZ.out _ hkm) (by omega) (by omega) (by rw [List.length_map, hml]; omega) (by rw [List.length_map, hml]; omega) (Nat.min_le_left _ _)
        have hc2 := HT3.out.1.2 k hil
        have SC : Hid (∀ wx, Below w3.heap.size w3 wx → wx.cell? ⟨g, k * 4 + 2, none⟩ = some (.slice T[k].2.1 T[k].1.labs.length T[k].2.2)) := hid (fun wx b => (b.cell (p := ⟨g, k * 4 + 2, none⟩) hg3).trans hc2.2.2.1)
        have HS3 := hid s3
        have hcl := cutC_len T[k].1.labs (((T.drop k).take e).map rowOf) 1000
        rw [List.length_map, hml] at hcl
        have HE := hid (And.intro s1 (And.intro s2 hcl))
        have hrl : (((T.drop k).take e).map rowOf).length = e := by rw [List.length_map, hml]
        simp only [hrl] at hPc
        generalize ((T.drop k).take e).map rowOf = rws at *
        generalize T[k] = x at *
        have g1 : (0 : Int) < ((T.length - k : Nat) : Int) := by omega
        have g2 : (0 : Nat) < T.length - k := by omega
        have g3 : e ≤ T.length - k := s1
        have g4 : e ≤ cap - k := by omega
        have g5 : (e : Int) ≤ ((T.length - k : Nat) : Int) := by omega
        clear hcons hc2 hml HT3w hkm s3 hcl hrl he hRl
        go_upto_region 6 with (go_at_call 25; refine hSt.mono ?_; rintro ee w4 ⟨rfl, b4⟩; clear hSt)
        have HW4 := HW.out.trans (b4.mono HW.out.size)
        have own0 : OwC 39 KRw w4.drew w3.heap.size u4 m := (HO.out.below b4).below (Below.refl _ _).drew
        have mkS : ∀ wx, Below w3.heap.size w3 wx → Below w3.heap.size w3 wx ∧ wx.cell? ⟨g, k * 4 + 2, none⟩ = some (.slice x.2.1 x.1.labs.length x.2.2) := fun wx b => ⟨b, SC.out wx b⟩
        have hk := mkS w4.drew (HW4.trans ((Below.refl _ _).drew))
        have MK := hid mkS
        have lim : m.length + e ≤ T.length := by have := HC.out.2; omega
        have LIM := hid lim
        clear mkS lim b4 HW4
        go_region_held3 (fun wx => Below w3.heap.size w3 wx ∧ wx.cell? ⟨g, k * 4 + 2, none⟩ = some (.slice x.2.1 x.1.labs.length x.2.2)) (exact hk)
          (first
            | (go_at_call 27; refine (hRO _ hk.1).mono ?_; rintro ee w5 ⟨A5, c5, rfl, o5, b5⟩; have own5 := own0.below b5; have r5 := o5.rd; have hk := MK.out _ (hk.1.trans (b5.mono hk.1.size)); clear hRO)
            | (go_at_call 26; refine (hPc _ hk.1 A5 c5 r5).mono ?_; rintro ee w6 ⟨v6, m6, rfl, o6, hm6, b6⟩; have own6 := own5.below b6; have z6 := hk.1.size; have hk := MK.out _ (hk.1.trans (b6.mono hk.1.size)); have hm6l : m6.length ≤ e := (by have := congrArg List.length hm6; rw [List.length_map] at this; have := HE.out.2.2; omega); clear hPc)
            | (refine Kd.step_appF (K := KC 39) rfl (.tmp 16) (.tmp 25) 25 rfl Tryd.underlying25 infoC rfl w3.heap.size u4 v6 m m6 (by simp [Act.eval]) own6.1 (by simp [Act.eval]) o6.1.rd (by have := LIM.out; unfold maxLen; omega) (by have := LIM.out; omega) hk.1.size ?_; intro v7 w7 o7 b7 g7; have hk := MK.out _ (hk.1.trans b7)))
        have own7 := OwC.more (by decide) (by decide) own6 (fun y hy => ⟨(o6.2 y hy).1.mono z6, (o6.2 y hy).2.mono z6⟩) o7 g7
        have hbw7 := hk.1
        have HO7 := hid own7
        have HMM : Hid ((m ++ m6).map CV.bare ++ chsOf (runs (T.drop (k + e)).length ((T.drop (k + e)).map (·.1))) = CH ∧ (m ++ m6).length ≤ k + e) := hid (by
          refine ⟨?_, by have := HC.out.2; rw [List.length_append]; omega⟩
          rw [← HC.out.1, HS3.out, List.map_append, hm6, List.append_assoc, List.drop_drop])
        clear own7 own6 own5 own0 o5 o6 o7 b5 b6 b7 hm6 r5 g7
        have g6 : ¬ T.length - k < e := by omega
        have HB7 := hid hbw7
        have HGG := hid (And.intro hg3 hMc)
        clear hk hbw7 HO HC HW
        go_wp2_with fail
        go_roundw
        case rel =>
          have hE := HE.out
          have hlc := HGG.out.2
          refine ⟨k + e, if cap - k = e then k * 4 else k * 4 + e * 4, m ++ m6, ?_, hid ⟨by omega, fun h => ?_⟩, HO7, HMM, HB7⟩
          · rw [show T.length - (k + e) = T.length - k - e by omega, show cap - (k + e) = cap - k - e by omega]
            split <;> rfl
          · rw [if_neg (by omega)]
            omega
        case measure =>
          have hE := HE.out
          show T.length - k - e < T.length - k
          omega
      · have hkT : k = T.length := by have := hk.out.1; omega
        have g1 : ¬ (0 : Int) < ((T.length - k : Nat) : Int) := by omega
        have FIN2 : Hid (OwC 39 KRw wr w.heap.size u4 m ∧ GrOf l (m.map CV.bare) ∧ Below w.heap.size w wr) := hid (by
          have hc := HC.out.1
          rw [List.drop_eq_nil_of_le (by omega)] at hc
          have : chsOf (runs ([] : List EV).length (([] : List EV).map (·.1))) = [] := rfl
          rw [this, List.append_nil] at hc
          exact ⟨HO.out.mono HBW.out.size, by rw [hc]; exact FIN.out, HBW.out.trans (HW.out.mono HBW.out.size)⟩)
        clear hkT hil
        go_wp2_with fail
        go_ret
        exact ⟨_, m, rfl, FIN2.out.1, FIN2.out.2.1, FIN2.out.2.2⟩
end Go.Proofs.YtaoeabnpmpimgaaDoor
end
section
namespace Go.Proofs.YtaoeabnpmpimgaaDoor
open Go.RowKit Go.Icz
theorem infoLs : (Tryd.prog.info? 32).map (fun i => (i.zero, i.size, i.bytes)) = some (some (.slice none 0 0), 1, 24) := by kernel_rfl
set_option maxRecDepth 100000 in
theorem run_topL {A : Option Addr} {n c hi : Nat} (h2 : hi ≤ c) (wx : World) : (Instr.slice 63 (.slice A n c) none (some (.int .i64 (hi : Int))) none).run Tryd.prog wx = .ok (sliced A 0 hi c 1) wx := by
  have := run_slice_h (P := Tryd.prog) (w := wx) 63 A n c Tryd.underlying63 .i64 (hi : Int) (by omega) (by omega)
  rw [this]
  have hz : (sizeOf (Tryd.prog.elem 63)).run Tryd.prog wx = .ok 1 wx := by go_simp
  rw [hz]
  simp [Result.andThen]
set_option maxRecDepth 100000 in
theorem run_fromL {A : Option Addr} {n c s : Nat} (h : s ≤ n) (wx : World) : (Instr.slice 63 (.slice A n c) (some (.int .i64 (s : Int))) none none).run Tryd.prog wx = .ok (sliced A s n c 1) wx := by
  have := run_slice_l (P := Tryd.prog) (w := wx) 63 A n c Tryd.underlying63 .i64 (s : Int) (by omega) (by omega)
  rw [this]
  have hz : (sizeOf (Tryd.prog.elem 63)).run Tryd.prog wx = .ok 1 wx := by go_simp
  rw [hz]
  simp [Result.andThen]
theorem partL {w : World} {A : Option Addr} {n c : Nat} {l : List LR} (h : KLs.Rd w (.slice A n c) l) (lo hi : Nat) (h1 : lo ≤ hi) (h2 : hi ≤ l.length) : KLs.Rd w (sliced A lo hi c 1) ((l.drop lo).take (hi - lo)) := h.part lo hi h1 h2
theorem MBf.apartE {w : World} {B m n : Nat} {v : Value} {l : List EV} {f : Int → Bool} (h : MBf w m n f) (o : KEnt.Own w B v l) : v.ownBlock ≠ some m := fun e => by
  rcases o.2 with ⟨rfl, _⟩ | ⟨k, cap, cur, rfl, _, hh, _⟩
  · simp [Value.ownBlock] at e
  · simp only [Value.ownBlock, Option.some.injEq] at e
    subst e
    exact h.noRow _ _ _ hh
def RgOut (l : List Ent) (w : World) (e : Ending) (w' : World) : Prop := ∃ u m, e = .returned u ∧ OwC 35 KRr w' w.heap.size u m ∧ GrR l (m.map CV.bare) ∧ Below w.heap.size w w'
set_option maxHeartbeats 8000000 in
set_option maxRecDepth 100000 in
theorem R4Group_is (v : Value) (l : List Ent) (w : World) (hR : RdE w v l) (hz : ∀ x ∈ l, entZ x) (hwf : ∀ x ∈ l, wfI x.seq) (hlen : l.length * 56 ≤ 140737488351232) :
    Calls Tryd.prog 8 #[v] w (RgOut l w) := by
  obtain ⟨X, hX, hV, hL⟩ := hR.places
  have hXl : X.length = l.length := by rw [← hX, List.length_map]
  have hmX : ∀ p ∈ X, p.1 ∈ l := fun p hp => by rw [← hX]; exact List.mem_map.2 ⟨p, hp, rfl⟩
  have hge : (gdV X).map (·.1) = gd l := by rw [gd_of, hX]
  have hSo : Hid (∀ w1 u1, Below w.heap.size w w1 → KEnt.Own w1 w.heap.size u1 (gdV X) → Calls Tryd.prog 29 #[u1] w1 (SortedOut (gd l) w1)) := hid (fun w1 u1 b1 o1 => by
    have hr := RdV.rdE (OwnV.ofKent o1).rd (fun p hp => (hL p (gdV_mem X p hp).1).below b1)
    rw [hge] at hr
    exact R3Sort_is u1 (gd l) w1 hr (by rw [← hge, List.length_map]; have := gdV_len X; omega))
  have HZZ := hid (fun p hp => hz _ (hmX p hp))
  have HWF := hid (fun p hp => hwf _ (hmX p hp))
  have HGE := hid hge
  obtain ⟨A, c, rfl, hlc, hcell⟩ := hV
  have HLL := hid hL
  have HLEN : Hid (X.length * 56 ≤ 140737488351232) := hid (by omega)
  have HGZ : Hid ((gd l).length * 56 ≤ 140737488351232 ∧ ∀ x ∈ gd l, entZ x) := hid ⟨by rw [← hge, List.length_map]; have := gdV_len X; omega, fun x hx => by
    rw [← hge] at hx
    obtain ⟨p, hp, rfl⟩ := List.mem_map.1 hx
    exact hz _ (hmX p (gdV_mem X p hp).1)⟩
  clear hR hz hwf hX hL hmX hge hXl hlen
  have b0 : Below w.heap.size w (w.alloc (.map #[] 0)) := (Below.refl _ w).alloc (Nat.le_refl _) _
  have ms0 := MBf.made w
  generalize hW1 : w.alloc (.map #[] 0) = W1 at *
  have hMM := @run_makeMap Tryd.prog
  go_enter Tryd.func8, Tryd.ntmps8
  go_wp2_with fail
  clear hMM hW1
  go_loopw [3, 5] (fun ov iv wr => ∃ (i n : Nat) (f : Int → Bool), iv = .int .i64 i ∧ i ≤ X.length ∧ KEnt.Own wr w.heap.size ov (gdV (X.take i)) ∧ MBf wr w.heap.size n f ∧ Hid (n ≤ i ∧ ∀ k, f k = true ↔ k ∈ (gdV (X.take i)).map (·.1.seq)) ∧ Below w.heap.size w wr) (fun _ iv _ => X.length - (intOf iv).toNat)
  case atStart => exact ⟨0, 0, _, rfl, by omega, Kd.Own.nil _ _, ms0, hid ⟨by simp, by simp [gdV]⟩, b0⟩
  case round =>
    obtain ⟨i, n, f, rfl, hi, ho, hm, HM, hbw⟩ := hrel
    have hLm : X.length ≤ 4611686018427387904 := by have := HLEN.out; omega
    by_cases hlt : i < X.length
    · obtain ⟨b, off, rfl, hb, hcl⟩ := hcell (by omega)
      have hcl := hcl i hlt
      have hxm := List.getElem_mem hlt
      have HTK : Hid (gdV (X.take (i + 1)) = gdStep (gdV (X.take i)) X[i]) := hid (by rw [List.take_succ_eq_append_getElem hlt, gdV_snoc])
      have hrd := (HLL.out _ hxm).below hbw
      have hxz := HZZ.out _ hxm
      have hxw := HWF.out _ hxm
      have HLT := hid hlt
      have HGL : Hid ((gdV (X.take i)).length ≤ i) := hid (by have := gdV_len (X.take i); rw [List.length_take] at this; omega)
      generalize gdV (X.take i) = acc at *
      generalize X[i] = x at *
      have KX : ∀ wx, Below wr.heap.size wr wx → wx.cell? ⟨b, off + i * 4, none⟩ = some (.int .i64 x.1.seq) ∧ wx.cell? ⟨b, off + i * 4 + 1, none⟩ = some (.int .i64 x.1.time) ∧ wx.cell? ⟨b, off + i * 4 + 2, none⟩ = some (.slice x.2.1 x.1.labs.length x.2.2) ∧ wx.cell? ⟨b, off + i * 4 + 3, none⟩ = some (.string ⟨x.1.line.toArray⟩) := fun wx h => by
        have hbb := hbw.trans (h.mono hbw.size)
        exact ⟨(hbb.cell (p := ⟨b, off + i * 4, none⟩) hb).trans hcl.1, (hbb.cell (p := ⟨b, off + i * 4 + 1, none⟩) hb).trans hcl.2.1, (hbb.cell (p := ⟨b, off + i * 4 + 2, none⟩) hb).trans hcl.2.2.1, (hbb.cell (p := ⟨b, off + i * 4 + 3, none⟩) hb).trans hcl.2.2.2⟩
      have hil : (i : Int) < (X.length : Int) := by omega
      have hzs := hbw.size
      have hN := hid hcell
      clear hcell hcl hxm hlt
      obtain ⟨⟨sq, tm, lb, ln⟩, Ax, cx⟩ := x
      simp only at KX hrd hxw
      obtain ⟨c0, c1, c2, c3⟩ := KX wr (Below.refl _ _)
      have hRt := R3Right_is ⟨sq, tm, lb, ln⟩ Ax cx wr hrd hxz
      unfold entV at hRt
      simp only at hRt
      by_cases hr : entR ⟨sq, tm, lb, ln⟩ = true
      · rw [hr] at hRt
        by_cases hmem : f sq = true
        · have FIN : Hid (gdV (X.take (i + 1)) = acc) := hid (by
            rw [HTK.out]
            unfold gdStep
            rw [if_neg (fun h => h.2 ((HM.out.2 sq).1 hmem))])
          have HOO := hid (And.intro ho hm)
          have HME := hid hmem
          clear HTK hmem hr ho hm
          go_wp2_with (first
            | (go_at_call 28; refine hRt.mono ?_; rintro e w5 ⟨rfl, b5⟩; obtain ⟨d0, d1, d2, d3⟩ := KX w5 b5
               have hm5 := HOO.out.2.touch (Tch.of_below (S := fun _ => False) b5) (fun h => h)
               have lk := hm5.look sq hxw
               rw [HME.out] at lk
               clear hRt)
            | fail)
          go_roundw
          case rel => exact ⟨i + 1, n, f, by go_num, by have := HLT.out; omega, by rw [FIN.out]; exact HOO.out.1.below b5, hm5, hid (by have := HM.out; rw [FIN.out]; exact ⟨by omega, this.2⟩), hbw.trans (b5.mono hzs)⟩
          case measure => have := HLT.out; simp [intOf]; omega
        · have hmf : f sq = false := by simpa using hmem
          have FIN : Hid (gdV (X.take (i + 1)) = acc ++ [(⟨sq, tm, lb, ln⟩, Ax, cx)]) := hid (by
            rw [HTK.out]
            unfold gdStep
            rw [if_pos ⟨hr, fun h => hmem ((HM.out.2 sq).2 h)⟩])
          have HM2 : Hid (n + 1 ≤ i + 1 ∧ ∀ k, (if k = sq then true else f k) = true ↔ k ∈ (acc ++ [((⟨sq, tm, lb, ln⟩ : Ent), Ax, cx)]).map (·.1.seq)) := hid (by
            have := HM.out
            refine ⟨by omega, fun k => ?_⟩
            rw [List.map_append, List.mem_append, List.map_singleton, List.mem_singleton, ← this.2 k]
            by_cases hk : k = sq
            · simp [hk]
            · simp [hk])
          have hml : n < maxLen := by have := HM.out.1; have := HLT.out; have := HLEN.out; unfold maxLen; omega
          have HOO := hid (And.intro ho hm)
          have HME := hid hmf
          clear HTK hmem hr ho hm hmf
          go_wp2_with (first
            | (go_at_call 28; refine hRt.mono ?_; rintro e w5 ⟨rfl, b5⟩; obtain ⟨d0, d1, d2, d3⟩ := KX w5 b5
               have hm5 := HOO.out.2.touch (Tch.of_below (S := fun _ => False) b5) (fun h => h)
               have lk := hm5.look sq hxw
               rw [HME.out] at lk
               have o5 := HOO.out.1.below b5
               have hne5 := hm5.apartE o5
               have hlm := HOO.out.2.lt
               obtain ⟨w6, hst, hm6, t6⟩ := hm5.store sq true hxw hml
               have o6 := o5.touch t6 (fun j hj => by rw [hj]; exact hne5)
               have b6 := Tch.below (hbw.trans (b5.mono hzs)) t6 (fun j hj => by omega) (by have := b5.size; omega)
               obtain ⟨f0, f1, f2, f3⟩ : w6.cell? ⟨b, off + i * 4, none⟩ = some (.int .i64 sq) ∧ w6.cell? ⟨b, off + i * 4 + 1, none⟩ = some (.int .i64 tm) ∧ w6.cell? ⟨b, off + i * 4 + 2, none⟩ = some (.slice Ax lb.length cx) ∧ w6.cell? ⟨b, off + i * 4 + 3, none⟩ = some (.string ⟨ln.toArray⟩) := by
                 have e6 : w6.heap[b]? = w5.heap[b]? := t6.block b (by have := b5.size; omega) (by omega)
                 unfold World.cell? at d0 d1 d2 d3 ⊢
                 simp only at d0 d1 d2 d3 ⊢
                 rw [e6]
                 exact ⟨d0, d1, d2, d3⟩
               clear hRt hm5)
            | (at_builtin; refine Kd.wp_app1 (K := KEnt) rfl (.tmp 41) (.tmp 46) 22 rfl Tryd.underlying22 infoE rfl w.heap.size u3 acc ((⟨sq, tm, lb, ln⟩ : Ent), Ax, cx) rfl o6 rfl rfl rfl (by have := HGL.out; have := HLT.out; have := HLEN.out; unfold maxLen; omega) (by have := HGL.out; have := HLT.out; have := HLEN.out; omega) b6.size ?_; intro v7 w7 o7 b7 g7 n7)
            | fail)
          go_roundw
          case rel =>
            have t7 : Tch (fun k => some k = u3.ownBlock) _ w7 := ⟨g7.os, g7.tape, g7.output, g7.size, fun k hk hn => g7.block k hk hn⟩
            exact ⟨i + 1, n + 1, _, by go_num, by have := HLT.out; omega, by rw [FIN.out]; exact o7, (hm6.touch (Tch.alloc (fun _ => False) _ _) (fun h => h)).touch t7 (fun h => hne5 h.symm), hid (by have := HM2.out; rw [FIN.out]; exact this), b6.trans b7⟩
          case measure => have := HLT.out; simp [intOf]; omega
      · have FIN : Hid (gdV (X.take (i + 1)) = acc) := hid (by
          rw [HTK.out]
          unfold gdStep
          rw [if_neg (fun h => hr h.1)])
        have hrf : entR ⟨sq, tm, lb, ln⟩ = false := by simpa using hr
        rw [hrf] at hRt
        have HOO := hid (And.intro ho hm)
        clear HTK hr hrf ho hm
        go_wp2_with (first
          | (go_at_call 28; refine hRt.mono ?_; rintro e w5 ⟨rfl, b5⟩; clear hRt)
          | fail)
        go_roundw
        case rel => exact ⟨i + 1, n, f, by go_num, by have := HLT.out; omega, by rw [FIN.out]; exact HOO.out.1.below b5, HOO.out.2.touch (Tch.of_below (S := fun _ => False) b5) (fun h => h), hid (by have := HM.out; rw [FIN.out]; exact ⟨by omega, this.2⟩), hbw.trans (b5.mono hzs)⟩
        case measure => have := HLT.out; simp [intOf]; omega
    · have hd : X.take i = X := List.take_of_length_le (by omega)
      have hne : ¬ (i : Int) < (X.length : Int) := by omega
      rw [hd] at ho
      have hS2 := hSo.out _ _ hbw ho
      clear ho hd HM hm hcell hlt
      go_upto_region 10 with (go_at_call 29; refine hS2.mono ?_; rintro e w2 ⟨v3, S, rfl, hr3, hst, hSl, b2⟩; clear hS2)
      -- SECOND
      obtain ⟨Y, hY, hV3, hL3⟩ := hr3.places
      have hYl : Y.length = S.length := by rw [← hY, List.length_map]
      obtain ⟨A3, c3, rfl, hlc3, hcell3⟩ := hV3
      have HYZ : Hid (∀ p ∈ Y, p.1.labs.length * 32 ≤ 140737488351232) := hid (fun p hp => (HGZ.out.2 _ ((hst.mem ltT_ord).1 (by rw [← hY]; exact List.mem_map.2 ⟨p, hp, rfl⟩))).1)
      have HYL : Hid (Y.length * 56 ≤ 140737488351232) := hid (by have := HGZ.out.1; omega)
      have HST := hid (And.intro hst (And.intro hSl hY))
      have HL3 := hid hL3
      have HBW2 := hid (hbw.trans (b2.mono hbw.size))
      clear hr3 hY hL3 hst hSl hYl b2 hbw hne hLm hi HLL HZZ HWF HLEN HGE HGZ hSo b0 ms0
      go_wp2_with fail
      go_loopw [6, 7] (fun sv iv wr => ∃ (i : Nat) (L : List LR), iv = .int .i64 i ∧ i ≤ Y.length ∧ KLs.Own wr w2.heap.size sv L ∧ Hid (SetsOf L (Y.take i) ∧ L.length ≤ i ∧ ∀ r ∈ L, RdL w2 (.slice r.A r.l.length r.c) r.l ∧ r.l.length * 32 ≤ 140737488351232) ∧ Below w2.heap.size w2 wr) (fun _ iv _ => Y.length - (intOf iv).toNat)
      case atStart => exact ⟨0, [], rfl, by omega, Kd.Own.nil _ _, hid ⟨⟨by simp, by simp⟩, by simp, by simp⟩, Below.refl _ _⟩
      case round =>
        obtain ⟨i, L, rfl, hi, ho, HS, hbw⟩ := hrel
        have hLm : Y.length ≤ 4611686018427387904 := by have := HYL.out; omega
        by_cases hlt : i < Y.length
        · obtain ⟨b, off, rfl, hb, hcl⟩ := hcell3 (by omega)
          have hcl := hcl i hlt
          have hxm := List.getElem_mem hlt
          have HTK : Hid (Y.take (i + 1) = Y.take i ++ [Y[i]]) := hid (List.take_succ_eq_append_getElem hlt)
          have HXR : Hid (RdL w2 (.slice Y[i].2.1 Y[i].1.labs.length Y[i].2.2) Y[i].1.labs ∧ Y[i].1.labs.length * 32 ≤ 140737488351232) := hid ⟨HL3.out _ hxm, HYZ.out _ hxm⟩
          have KX : ∀ wx, Below wr.heap.size wr wx → wx.cell? ⟨b, off + i * 4 + 2, none⟩ = some (.slice Y[i].2.1 Y[i].1.labs.length Y[i].2.2) := fun wx h => ((hbw.trans (h.mono hbw.size)).cell (p := ⟨b, off + i * 4 + 2, none⟩) hb).trans hcl.2.2.1
          have HLT := hid hlt
          have HN3 := hid hcell3
          generalize Y[i] = x at *
          clear hcl hxm hcell3 hlt
          have hil : (i : Int) < (Y.length : Int) := by have := HLT.out; omega
          have ho2 := ho.rd
          obtain ⟨AO, co, rfl, hoc⟩ := ho2.form
          have HO := hid (And.intro ho ho2)
          have LIM : Hid ((L.length + 1) * 24 ≤ 140737488355328 ∧ L.length + 1 ≤ 4611686018427387904) := hid (by have := HS.out.2.1; have := HYL.out; have := HLT.out; omega)
          have hLl : L.length ≤ 4611686018427387903 := by have := LIM.out; omega
          have HKX := hid KX
          have FK : Hid (∀ k, k ≤ L.length → SetsOf (L.take k ++ (⟨x.2.1, x.2.2, x.1.labs⟩ : LR) :: L.drop k) (Y.take (i + 1)) → (SetsOf (L.take k ++ (⟨x.2.1, x.2.2, x.1.labs⟩ : LR) :: L.drop k) (Y.take (i + 1)) ∧ (L.take k ++ (⟨x.2.1, x.2.2, x.1.labs⟩ : LR) :: L.drop k).length ≤ i + 1 ∧ ∀ r ∈ L.take k ++ (⟨x.2.1, x.2.2, x.1.labs⟩ : LR) :: L.drop k, RdL w2 (.slice r.A r.l.length r.c) r.l ∧ r.l.length * 32 ≤ 140737488351232)) := hid (fun k hk h => by
            refine ⟨h, by have := HS.out.2.1; rw [List.length_append, List.length_cons, List.length_take, List.length_drop]; omega, fun r hr => ?_⟩
            rcases List.mem_append.1 hr with hr | hr
            · exact HS.out.2.2 r (List.mem_of_mem_take hr)
            · rcases List.mem_cons.1 hr with rfl | hr
              · exact HXR.out
              · exact HS.out.2.2 r (List.mem_of_mem_drop hr))
          have hz2 := hbw.size
          clear ho ho2 KX
          generalize wr = wo at *
          go_wp2_with fail
          go_loopw [8] (fun kv ws => ∃ k : Nat, kv = .int .i64 (k : Int) ∧ k ≤ L.length ∧ Below wo.heap.size wo ws ∧ Hid (∀ j (hj : j < L.length), k ≤ j → ltS x.1.labs L[j].l)) (fun kv _ => (intOf kv).toNat)
          case atStart => exact ⟨L.length, rfl, by omega, Below.refl _ _, hid (fun j hj h => by omega)⟩
          case round =>
            obtain ⟨k, rfl, hk, hbs, HK⟩ := hrel
            have SX : Hid (∀ wx, Below wr.heap.size wr wx → wx.cell? ⟨b, off + i * 4 + 2, none⟩ = some (.slice x.2.1 x.1.labs.length x.2.2)) := hid (fun wx h => HKX.out wx (hbs.trans (h.mono hbs.size)))
            generalize wr = ws at *
            by_cases hk0 : k = 0
            · have FIN : Hid (SetsOf (L.take 0 ++ (⟨x.2.1, x.2.2, x.1.labs⟩ : LR) :: L.drop 0) (Y.take (i + 1))) := hid (by rw [HTK.out]; exact HS.out.1.ins (by omega) (fun j hj h => HK.out j hj (by omega)) (fun h => absurd h (by omega)) _ rfl)
              subst hk0
              clear HK
              go_wp2_with fail
              refine wp_region_held_drew (S := fun _ => True) (by kernel_rfl) trivial (fun hHeld => ?_)
              refine takeAt (i := 0) (d := 58) (v := .int .i64 0) rfl rfl (by kernel_rfl) (by kernel_rfl) (by kernel_rfl) (fun _ _ _ h => h) (Or.inl ⟨by rfl, fun w hSw => by go_simp⟩) hHeld ?_
              simp only [List.setIfInBounds_toArray, List.set_cons_zero, List.set_cons_succ]
              refine takeAt (i := 1) (d := 59) (v := .bool false) rfl rfl (by kernel_rfl) (by kernel_rfl) (by kernel_rfl) (fun _ _ _ h => h) (Or.inl ⟨by rfl, fun w hSw => by go_simp⟩) hHeld ?_
              simp only [List.setIfInBounds_toArray, List.set_cons_zero, List.set_cons_succ]
              refine takeAt (i := 2) (d := 60) (v := .bool false) rfl rfl (by kernel_rfl) (by kernel_rfl) (by kernel_rfl) (fun _ _ _ h => h) (Or.inl ⟨by rfl, fun w hSw => by go_simp⟩) hHeld ?_
              simp only [List.setIfInBounds_toArray, List.set_cons_zero, List.set_cons_succ]
              refine takeAt (i := 3) (d := 61) (v := undef) rfl rfl (by kernel_rfl) (by kernel_rfl) (by kernel_rfl) (fun _ _ _ h => h) (Or.inr ⟨by rfl, rfl⟩) hHeld ?_
              simp only [List.setIfInBounds_toArray, List.set_cons_zero, List.set_cons_succ]
              refine takeAt (i := 4) (d := 62) (v := undef) rfl rfl (by kernel_rfl) (by kernel_rfl) (by kernel_rfl) (fun _ _ _ h => h) (Or.inr ⟨by rfl, rfl⟩) hHeld ?_
              simp only [List.setIfInBounds_toArray, List.set_cons_zero, List.set_cons_succ]
              refine takeAt (i := 5) (d := 63) (v := undef) rfl rfl (by kernel_rfl) (by kernel_rfl) (by kernel_rfl) (fun _ _ _ h => h) (Or.inr ⟨by rfl, rfl⟩) hHeld ?_
              simp only [List.setIfInBounds_toArray, List.set_cons_zero, List.set_cons_succ]
              refine takeAt (i := 6) (d := 64) (v := undef) rfl rfl (by kernel_rfl) (by kernel_rfl) (by kernel_rfl) (fun _ _ _ h => h) (Or.inr ⟨by rfl, rfl⟩) hHeld ?_
              simp only [List.setIfInBounds_toArray, List.set_cons_zero, List.set_cons_succ]
              refine takeAt (i := 7) (d := 65) (v := undef) rfl rfl (by kernel_rfl) (by kernel_rfl) (by kernel_rfl) (fun _ _ _ h => h) (Or.inr ⟨by rfl, rfl⟩) hHeld ?_
              simp only [List.setIfInBounds_toArray, List.set_cons_zero, List.set_cons_succ]
              refine takeAt (i := 8) (d := 66) (v := undef) rfl rfl (by kernel_rfl) (by kernel_rfl) (by kernel_rfl) (fun _ _ _ h => h) (Or.inr ⟨by rfl, rfl⟩) hHeld ?_
              simp only [List.setIfInBounds_toArray, List.set_cons_zero, List.set_cons_succ]
              refine takeAt (i := 9) (d := 67) (v := undef) rfl rfl (by kernel_rfl) (by kernel_rfl) (by kernel_rfl) (fun _ _ _ h => h) (Or.inr ⟨by rfl, rfl⟩) hHeld ?_
              simp only [List.setIfInBounds_toArray, List.set_cons_zero, List.set_cons_succ]
              refine takeAt (i := 10) (d := 68) (v := undef) rfl rfl (by kernel_rfl) (by kernel_rfl) (by kernel_rfl) (fun _ _ _ h => h) (Or.inr ⟨by rfl, rfl⟩) hHeld ?_
              simp only [List.setIfInBounds_toArray, List.set_cons_zero, List.set_cons_succ]
              refine takeAt (i := 11) (d := 69) (v := undef) rfl rfl (by kernel_rfl) (by kernel_rfl) (by kernel_rfl) (fun _ _ _ h => h) (Or.inr ⟨by rfl, rfl⟩) hHeld ?_
              simp only [List.setIfInBounds_toArray, List.set_cons_zero, List.set_cons_succ]
              refine takeAt (i := 12) (d := 70) (v := undef) rfl rfl (by kernel_rfl) (by kernel_rfl) (by kernel_rfl) (fun _ _ _ h => h) (Or.inr ⟨by rfl, rfl⟩) hHeld ?_
              simp only [List.setIfInBounds_toArray, List.set_cons_zero, List.set_cons_succ]
              refine takeAt (i := 13) (d := 71) (v := undef) rfl rfl (by kernel_rfl) (by kernel_rfl) (by kernel_rfl) (fun _ _ _ h => h) (Or.inr ⟨by rfl, rfl⟩) hHeld ?_
              simp only [List.setIfInBounds_toArray, List.set_cons_zero, List.set_cons_succ]
              refine takeAt (i := 14) (d := 72) (v := undef) rfl rfl (by kernel_rfl) (by kernel_rfl) (by kernel_rfl) (fun _ _ _ h => h) (Or.inr ⟨by rfl, rfl⟩) hHeld ?_
              simp only [List.setIfInBounds_toArray, List.set_cons_zero, List.set_cons_succ]
              refine takeAt (i := 15) (d := 73) (v := .bool false) rfl rfl (by kernel_rfl) (by kernel_rfl) (by kernel_rfl) (fun _ _ _ h => h) (Or.inl ⟨by rfl, fun w hSw => by go_simp⟩) hHeld ?_
              simp only [List.setIfInBounds_toArray, List.set_cons_zero, List.set_cons_succ]
              refine wpAnyH_done (by kernel_rfl) ?_ _
              go_wp2_with fail
              refine wp_region_held_drew (S := fun _ => True) (by kernel_rfl) trivial (fun hHeld => ?_)
              refine takeAt (i := 0) (d := 76) (v := .int .i64 0) rfl rfl (by kernel_rfl) (by kernel_rfl) (by kernel_rfl) (fun _ _ _ h => h) (Or.inl ⟨by rfl, fun w hSw => by go_simp⟩) hHeld ?_
              simp only [List.setIfInBounds_toArray, List.set_cons_zero, List.set_cons_succ]
              refine takeAt (i := 1) (d := 77) (v := .bool false) rfl rfl (by kernel_rfl) (by kernel_rfl) (by kernel_rfl) (fun _ _ _ h => h) (Or.inl ⟨by rfl, fun w hSw => by go_simp⟩) hHeld ?_
              simp only [List.setIfInBounds_toArray, List.set_cons_zero, List.set_cons_succ]
              refine takeAt (i := 2) (d := 78) (v := .bool false) rfl rfl (by kernel_rfl) (by kernel_rfl) (by kernel_rfl) (fun _ _ _ h => h) (Or.inl ⟨by rfl, fun w hSw => by go_simp⟩) hHeld ?_
              simp only [List.setIfInBounds_toArray, List.set_cons_zero, List.set_cons_succ]
              refine takeAt (i := 3) (d := 79) (v := undef) rfl rfl (by kernel_rfl) (by kernel_rfl) (by kernel_rfl) (fun _ _ _ h => h) (Or.inr ⟨by rfl, rfl⟩) hHeld ?_
              simp only [List.setIfInBounds_toArray, List.set_cons_zero, List.set_cons_succ]
              refine takeAt (i := 4) (d := 80) (v := undef) rfl rfl (by kernel_rfl) (by kernel_rfl) (by kernel_rfl) (fun _ _ _ h => h) (Or.inr ⟨by rfl, rfl⟩) hHeld ?_
              simp only [List.setIfInBounds_toArray, List.set_cons_zero, List.set_cons_succ]
              refine takeAt (i := 5) (d := 81) (v := undef) rfl rfl (by kernel_rfl) (by kernel_rfl) (by kernel_rfl) (fun _ _ _ h => h) (Or.inr ⟨by rfl, rfl⟩) hHeld ?_
              simp only [List.setIfInBounds_toArray, List.set_cons_zero, List.set_cons_succ]
              refine takeAt (i := 6) (d := 82) (v := undef) rfl rfl (by kernel_rfl) (by kernel_rfl) (by kernel_rfl) (fun _ _ _ h => h) (Or.inr ⟨by rfl, rfl⟩) hHeld ?_
              simp only [List.setIfInBounds_toArray, List.set_cons_zero, List.set_cons_succ]
              refine takeAt (i := 7) (d := 83) (v := undef) rfl rfl (by kernel_rfl) (by kernel_rfl) (by kernel_rfl) (fun _ _ _ h => h) (Or.inr ⟨by rfl, rfl⟩) hHeld ?_
              simp only [List.setIfInBounds_toArray, List.set_cons_zero, List.set_cons_succ]
              refine takeAt (i := 8) (d := 84) (v := undef) rfl rfl (by kernel_rfl) (by kernel_rfl) (by kernel_rfl) (fun _ _ _ h => h) (Or.inr ⟨by rfl, rfl⟩) hHeld ?_
              simp only [List.setIfInBounds_toArray, List.set_cons_zero, List.set_cons_succ]
              refine takeAt (i := 9) (d := 85) (v := undef) rfl rfl (by kernel_rfl) (by kernel_rfl) (by kernel_rfl) (fun _ _ _ h => h) (Or.inr ⟨by rfl, rfl⟩) hHeld ?_
              simp only [List.setIfInBounds_toArray, List.set_cons_zero, List.set_cons_succ]
              refine takeAt (i := 10) (d := 86) (v := undef) rfl rfl (by kernel_rfl) (by kernel_rfl) (by kernel_rfl) (fun _ _ _ h => h) (Or.inr ⟨by rfl, rfl⟩) hHeld ?_
              simp only [List.setIfInBounds_toArray, List.set_cons_zero, List.set_cons_succ]
              refine takeAt (i := 11) (d := 87) (v := undef) rfl rfl (by kernel_rfl) (by kernel_rfl) (by kernel_rfl) (fun _ _ _ h => h) (Or.inr ⟨by rfl, rfl⟩) hHeld ?_
              simp only [List.setIfInBounds_toArray, List.set_cons_zero, List.set_cons_succ]
              refine takeAt (i := 12) (d := 88) (v := undef) rfl rfl (by kernel_rfl) (by kernel_rfl) (by kernel_rfl) (fun _ _ _ h => h) (Or.inr ⟨by rfl, rfl⟩) hHeld ?_
              simp only [List.setIfInBounds_toArray, List.set_cons_zero, List.set_cons_succ]
              refine takeAt (i := 13) (d := 89) (v := undef) rfl rfl (by kernel_rfl) (by kernel_rfl) (by kernel_rfl) (fun _ _ _ h => h) (Or.inr ⟨by rfl, rfl⟩) hHeld ?_
              simp only [List.setIfInBounds_toArray, List.set_cons_zero, List.set_cons_succ]
              refine takeAt (i := 14) (d := 90) (v := undef) rfl rfl (by kernel_rfl) (by kernel_rfl) (by kernel_rfl) (fun _ _ _ h => h) (Or.inr ⟨by rfl, rfl⟩) hHeld ?_
              simp only [List.setIfInBounds_toArray, List.set_cons_zero, List.set_cons_succ]
              refine takeAt (i := 15) (d := 91) (v := .bool false) rfl rfl (by kernel_rfl) (by kernel_rfl) (by kernel_rfl) (fun _ _ _ h => h) (Or.inl ⟨by rfl, fun w hSw => by go_simp⟩) hHeld ?_
              simp only [List.setIfInBounds_toArray, List.set_cons_zero, List.set_cons_succ]
              refine wpAnyH_done (by kernel_rfl) ?_ _
              go_wp2_with fail
              have hs1 : ∀ wx, (Instr.slice 63 (.slice AO L.length co) none (some (.int .i64 (0 : Int))) none).run Tryd.prog wx = .ok (sliced AO 0 0 co 1) wx := fun wx => run_topL (hi := 0) (by omega) wx
              have hs2 : ∀ wx, (Instr.slice 63 (.slice AO L.length co) (some (.int .i64 (0 : Int))) none none).run Tryd.prog wx = .ok (sliced AO 0 L.length co 1) wx := fun wx => run_fromL (s := 0) (by omega) wx
              have r1 := partL (HO.out.2.below hbs) 0 0 (by omega) (by omega)
              have r2 := partL (HO.out.2.below hbs) 0 L.length (by omega) (Nat.le_refl _)
              rw [Nat.sub_zero, List.drop_zero] at r1 r2
              rw [List.take_of_length_le (Nat.le_refl _)] at r2
              have FF := hid (FK.out 0 (by omega) FIN.out)
              generalize sliced AO 0 0 co 1 = v1 at *
              generalize sliced AO 0 L.length co 1 = v2 at *
              have hzs := hbs.size
              obtain ⟨wq, hwq⟩ : ∃ wq, wq = ws.drew.drew := ⟨_, rfl⟩
              rw [← hwq]
              have bq : Below ws.heap.size ws wq := by rw [hwq]; exact (Below.refl _ _).drew.drew
              have hzq := bq.size
              have SX2 : Hid (∀ wx, Below wq.heap.size wq wx → wx.cell? ⟨b, off + i * 4 + 2, none⟩ = some (.slice x.2.1 x.1.labs.length x.2.2)) := hid (fun wx h => SX.out wx (bq.trans (h.mono bq.size)))
              replace r1 := r1.below bq
              replace r2 := r2.below bq
              clear FIN FK hwq
              refine wp_region_L 16 (fun wS => wS.cell? ⟨b, off + i * 4 + 2, none⟩ = some (.slice x.2.1 x.1.labs.length x.2.2)) (by kernel_rfl) ?_
              refine takeL (i := 1) (d := 93) (v := .slice AO L.length co) rfl rfl (by kernel_rfl) (by kernel_rfl) (by kernel_rfl) (by kernel_rfl) (by kernel_rfl) (fun _ _ _ h => h) (Or.inl ⟨by rfl, fun wS hSw => by go_simp⟩) (SX2.out _ (Below.refl _ _).drew) ?_
              try simp only [List.setIfInBounds_toArray, List.set_cons_zero, List.set_cons_succ]
              refine takeL (i := 2) (d := 94) (v := .int .i64 0) rfl rfl (by kernel_rfl) (by kernel_rfl) (by kernel_rfl) (by kernel_rfl) (by kernel_rfl) (fun _ _ _ h => h) (Or.inl ⟨by rfl, fun wS hSw => by go_simp⟩) (SX2.out _ (Below.refl _ _).drew) ?_
              try simp only [List.setIfInBounds_toArray, List.set_cons_zero, List.set_cons_succ]
              refine takeL (i := 3) (d := 95) (v := v1) rfl rfl (by kernel_rfl) (by kernel_rfl) (by kernel_rfl) (by kernel_rfl) (by kernel_rfl) (fun _ _ _ h => h) (Or.inl ⟨by rfl, fun wS hSw => by go_simp⟩) (SX2.out _ (Below.refl _ _).drew) ?_
              try simp only [List.setIfInBounds_toArray, List.set_cons_zero, List.set_cons_succ]
              refine takeL (i := 5) (d := 97) (v := .slice (some ⟨b, off, none⟩) Y.length c3) rfl rfl (by kernel_rfl) (by kernel_rfl) (by kernel_rfl) (by kernel_rfl) (by kernel_rfl) (fun _ _ _ h => h) (Or.inl ⟨by rfl, fun wS hSw => by go_simp⟩) (SX2.out _ (Below.refl _ _).drew) ?_
              try simp only [List.setIfInBounds_toArray, List.set_cons_zero, List.set_cons_succ]
              refine takeL (i := 6) (d := 98) (v := .int .i64 (i : Int)) rfl rfl (by kernel_rfl) (by kernel_rfl) (by kernel_rfl) (by kernel_rfl) (by kernel_rfl) (fun _ _ _ h => h) (Or.inl ⟨by rfl, fun wS hSw => by go_simp⟩) (SX2.out _ (Below.refl _ _).drew) ?_
              try simp only [List.setIfInBounds_toArray, List.set_cons_zero, List.set_cons_succ]
              refine takeL (i := 7) (d := 99) (v := .pointer (some ⟨b, off + i * 4, none⟩)) rfl rfl (by kernel_rfl) (by kernel_rfl) (by kernel_rfl) (by kernel_rfl) (by kernel_rfl) (fun _ _ _ h => h) (Or.inl ⟨by rfl, fun wS hSw => by go_simp⟩) (SX2.out _ (Below.refl _ _).drew) ?_
              try simp only [List.setIfInBounds_toArray, List.set_cons_zero, List.set_cons_succ]
              refine takeL (i := 8) (d := 100) (v := .pointer (some ⟨b, off + i * 4 + 2, none⟩)) rfl rfl (by kernel_rfl) (by kernel_rfl) (by kernel_rfl) (by kernel_rfl) (by kernel_rfl) (fun _ _ _ h => h) (Or.inl ⟨by rfl, fun wS hSw => by go_simp⟩) (SX2.out _ (Below.refl _ _).drew) ?_
              try simp only [List.setIfInBounds_toArray, List.set_cons_zero, List.set_cons_succ]
              refine takeL (i := 9) (d := 101) (v := .slice x.2.1 x.1.labs.length x.2.2) rfl rfl (by kernel_rfl) (by kernel_rfl) (by kernel_rfl) (by kernel_rfl) (by kernel_rfl) (fun _ _ _ h => h) (Or.inl ⟨by rfl, fun wS hSw => by go_simp⟩) (SX2.out _ (Below.refl _ _).drew) ?_
              try simp only [List.setIfInBounds_toArray, List.set_cons_zero, List.set_cons_succ]
              refine takeL (i := 12) (d := 104) (v := .slice AO L.length co) rfl rfl (by kernel_rfl) (by kernel_rfl) (by kernel_rfl) (by kernel_rfl) (by kernel_rfl) (fun _ _ _ h => h) (Or.inl ⟨by rfl, fun wS hSw => by go_simp⟩) (SX2.out _ (Below.refl _ _).drew) ?_
              try simp only [List.setIfInBounds_toArray, List.set_cons_zero, List.set_cons_succ]
              refine takeL (i := 13) (d := 105) (v := .int .i64 0) rfl rfl (by kernel_rfl) (by kernel_rfl) (by kernel_rfl) (by kernel_rfl) (by kernel_rfl) (fun _ _ _ h => h) (Or.inl ⟨by rfl, fun wS hSw => by go_simp⟩) (SX2.out _ (Below.refl _ _).drew) ?_
              try simp only [List.setIfInBounds_toArray, List.set_cons_zero, List.set_cons_succ]
              refine takeL (i := 14) (d := 106) (v := v2) rfl rfl (by kernel_rfl) (by kernel_rfl) (by kernel_rfl) (by kernel_rfl) (by kernel_rfl) (fun _ _ _ h => h) (Or.inl ⟨by rfl, fun wS hSw => by go_simp⟩) (SX2.out _ (Below.refl _ _).drew) ?_
              try simp only [List.setIfInBounds_toArray, List.set_cons_zero, List.set_cons_succ]
              have D0 : Below wq.heap.size wq wq.drew := (Below.refl _ _).drew
              refine readyL (rs := [0, 10]) (by kernel_rfl) (by simp) ?_
              refine AllReadyL.cons rfl (fun K hK => ?_) (AllReadyL.cons rfl (fun K hK => ?_) AllReadyL.nil)
              · rw [if_pos (by rfl)]
                go_simp
                have D1 := D0.alloc D0.size (.cells #[] 32)
                have rA := heap_alloc_new wq.drew (.cells #[] 32)
                have oA := Kd.own_empty (K := KLs) (B := wq.heap.size) rA D0.size
                refine hK.out _ _ (SX2.out _ D1) ?_
                clear hK K
                try simp only [Act.put, List.setIfInBounds_toArray, List.set_cons_zero, List.set_cons_succ]
                refine readyL (rs := [4, 10]) (by kernel_rfl) (by simp) ?_
                refine AllReadyL.cons rfl (fun K hK => ?_) (AllReadyL.cons rfl (fun K hK => ?_) AllReadyL.nil)
                · refine Kd.step_appF (K := KLs) (w := wq.drew.alloc (.cells #[] 32)) rfl (.tmp 92) (.tmp 95) 63 rfl Tryd.underlying63 infoLs rfl wq.heap.size _ v1 [] _ (by simp [Act.eval]) (oA) (by simp [Act.eval]) (r1.below D1) (by have := LIM.out; first | (simp [maxLen]; done) | (simp [maxLen]; omega)) (by have := LIM.out; first | (simp; done) | (simp; omega)) D1.size ?_
                  intro v4 w4 p4 b4 g4
                  have D2 := D1.trans b4
                  refine hK.out _ _ (SX2.out _ D2) ?_
                  clear hK K
                  try simp only [Act.put, List.setIfInBounds_toArray, List.set_cons_zero, List.set_cons_succ]
                  rw [List.nil_append] at p4
                  refine readyL (rs := [10]) (by kernel_rfl) (by simp) ?_
                  refine AllReadyL.cons rfl (fun K hK => ?_) AllReadyL.nil
                  rw [if_pos (by rfl)]
                  go_simp
                  have D3 := D2.alloc D2.size (.cells #[.slice x.2.1 x.1.labs.length x.2.2] 32)
                  have rB : KLs.Rd _ (.slice (some ⟨w4.heap.size, 0, none⟩) 1 1) [(⟨x.2.1, x.2.2, x.1.labs⟩ : LR)] := (Kd.Own.lit (K := KLs) w4 (B := 0) [(⟨x.2.1, x.2.2, x.1.labs⟩ : LR)] (by simp [maxLen]) (Nat.zero_le _)).rd
                  refine hK.out _ _ (SX2.out _ D3) ?_
                  clear hK K
                  try simp only [Act.put, List.setIfInBounds_toArray, List.set_cons_zero, List.set_cons_succ]
                  refine readyL (rs := [11]) (by kernel_rfl) (by simp) ?_
                  refine AllReadyL.cons rfl (fun K hK => ?_) AllReadyL.nil
                  refine Kd.step_appF (K := KLs) (w := _) rfl (.tmp 96) (.tmp 102) 63 rfl Tryd.underlying63 infoLs rfl wq.heap.size v4 _ _ [(⟨x.2.1, x.2.2, x.1.labs⟩ : LR)] (by simp [Act.eval]) (p4.alloc _) (by simp [Act.eval]) (rB) (by have := LIM.out; first | (simp [maxLen]; done) | (simp [maxLen]; omega)) (by have := LIM.out; first | (simp; done) | (simp; omega)) D3.size ?_
                  intro v7 w7 p7 b7 g7
                  have D7 := D3.trans b7
                  refine hK.out _ _ (SX2.out _ D7) ?_
                  clear hK K
                  try simp only [Act.put, List.setIfInBounds_toArray, List.set_cons_zero, List.set_cons_succ]
                  refine readyL (rs := [15]) (by kernel_rfl) (by simp) ?_
                  refine AllReadyL.cons rfl (fun K hK => ?_) AllReadyL.nil
                  refine Kd.step_appF (K := KLs) (w := w7) rfl (.tmp 103) (.tmp 106) 63 rfl Tryd.underlying63 infoLs rfl wq.heap.size v7 v2 _ _ (by simp [Act.eval]) (p7) (by simp [Act.eval]) (r2.below D7) (by have := LIM.out; first | (simp [maxLen]; done) | (simp [maxLen]; omega)) (by have := LIM.out; first | (simp; done) | (simp; omega)) D7.size ?_
                  intro v8 w8 p8 b8 g8
                  have D8 := D7.trans b8
                  refine hK.out _ _ (SX2.out _ D8) ?_
                  clear hK K
                  try simp only [Act.put, List.setIfInBounds_toArray, List.set_cons_zero, List.set_cons_succ]
                  refine readyL (rs := [16]) (by kernel_rfl) (by simp) ?_
                  refine AllReadyL.last rfl (fun K hK => ?_)
                  rw [if_pos (by rfl)]
                  go_simp
                  refine hK.out _ _ ?_
                  clear hK K
                  refine doneL (by kernel_rfl) ?_
                  go_wp2_with fail
                  go_roundw
                  case rel => exact ⟨i + 1, _, by go_num, HLT.out, (by have := p8.mono (show w2.heap.size ≤ wq.heap.size by omega); simpa only [List.append_assoc, List.cons_append, List.nil_append, List.drop_zero] using this), FF, hbw.trans ((hbs.trans ((bq.trans (D8.mono bq.size)).mono hzs)).mono hz2)⟩
                  case measure => have := HLT.out; simp [intOf]; omega
                · rw [if_pos (by rfl)]
                  go_simp
                  have D2 := D1.alloc D1.size (.cells #[.slice x.2.1 x.1.labs.length x.2.2] 32)
                  have rB : KLs.Rd _ (.slice (some ⟨(wq.drew.alloc (.cells #[] 32)).heap.size, 0, none⟩) 1 1) [(⟨x.2.1, x.2.2, x.1.labs⟩ : LR)] := (Kd.Own.lit (K := KLs) (wq.drew.alloc (.cells #[] 32)) (B := 0) [(⟨x.2.1, x.2.2, x.1.labs⟩ : LR)] (by simp [maxLen]) (Nat.zero_le _)).rd
                  refine hK.out _ _ (SX2.out _ D2) ?_
                  clear hK K
                  try simp only [Act.put, List.setIfInBounds_toArray, List.set_cons_zero, List.set_cons_succ]
                  refine readyL (rs := [4]) (by kernel_rfl) (by simp) ?_
                  refine AllReadyL.cons rfl (fun K hK => ?_) AllReadyL.nil
                  refine Kd.step_appF (K := KLs) (w := _) rfl (.tmp 92) (.tmp 95) 63 rfl Tryd.underlying63 infoLs rfl wq.heap.size _ v1 [] _ (by simp [Act.eval]) (oA.alloc _) (by simp [Act.eval]) (r1.below D2) (by have := LIM.out; first | (simp [maxLen]; done) | (simp [maxLen]; omega)) (by have := LIM.out; first | (simp; done) | (simp; omega)) D2.size ?_
                  intro v4 w4 p4 b4 g4
                  have D3 := D2.trans b4
                  refine hK.out _ _ (SX2.out _ D3) ?_
                  clear hK K
                  try simp only [Act.put, List.setIfInBounds_toArray, List.set_cons_zero, List.set_cons_succ]
                  rw [List.nil_append] at p4
                  have rB4 := Kd.Rd.far g4 rB (by simp [Value.ownBlock])
                  refine readyL (rs := [11]) (by kernel_rfl) (by simp) ?_
                  refine AllReadyL.cons rfl (fun K hK => ?_) AllReadyL.nil
                  refine Kd.step_appF (K := KLs) (w := w4) rfl (.tmp 96) (.tmp 102) 63 rfl Tryd.underlying63 infoLs rfl wq.heap.size v4 _ _ [(⟨x.2.1, x.2.2, x.1.labs⟩ : LR)] (by simp [Act.eval]) (p4) (by simp [Act.eval]) (rB4) (by have := LIM.out; first | (simp [maxLen]; done) | (simp [maxLen]; omega)) (by have := LIM.out; first | (simp; done) | (simp; omega)) D3.size ?_
                  intro v7 w7 p7 b7 g7
                  have D7 := D3.trans b7
                  refine hK.out _ _ (SX2.out _ D7) ?_
                  clear hK K
                  try simp only [Act.put, List.setIfInBounds_toArray, List.set_cons_zero, List.set_cons_succ]
                  refine readyL (rs := [15]) (by kernel_rfl) (by simp) ?_
                  refine AllReadyL.cons rfl (fun K hK => ?_) AllReadyL.nil
                  refine Kd.step_appF (K := KLs) (w := w7) rfl (.tmp 103) (.tmp 106) 63 rfl Tryd.underlying63 infoLs rfl wq.heap.size v7 v2 _ _ (by simp [Act.eval]) (p7) (by simp [Act.eval]) (r2.below D7) (by have := LIM.out; first | (simp [maxLen]; done) | (simp [maxLen]; omega)) (by have := LIM.out; first | (simp; done) | (simp; omega)) D7.size ?_
                  intro v8 w8 p8 b8 g8
                  have D8 := D7.trans b8
                  refine hK.out _ _ (SX2.out _ D8) ?_
                  clear hK K
                  try simp only [Act.put, List.setIfInBounds_toArray, List.set_cons_zero, List.set_cons_succ]
                  refine readyL (rs := [16]) (by kernel_rfl) (by simp) ?_
                  refine AllReadyL.last rfl (fun K hK => ?_)
                  rw [if_pos (by rfl)]
                  go_simp
                  refine hK.out _ _ ?_
                  clear hK K
                  refine doneL (by kernel_rfl) ?_
                  go_wp2_with fail
                  go_roundw
                  case rel => exact ⟨i + 1, _, by go_num, HLT.out, (by have := p8.mono (show w2.heap.size ≤ wq.heap.size by omega); simpa only [List.append_assoc, List.cons_append, List.nil_append, List.drop_zero] using this), FF, hbw.trans ((hbs.trans ((bq.trans (D8.mono bq.size)).mono hzs)).mono hz2)⟩
                  case measure => have := HLT.out; simp [intOf]; omega
              · rw [if_pos (by rfl)]
                go_simp
                have D1 := D0.alloc D0.size (.cells #[.slice x.2.1 x.1.labs.length x.2.2] 32)
                have rB : KLs.Rd _ (.slice (some ⟨wq.drew.heap.size, 0, none⟩) 1 1) [(⟨x.2.1, x.2.2, x.1.labs⟩ : LR)] := (Kd.Own.lit (K := KLs) wq.drew (B := 0) [(⟨x.2.1, x.2.2, x.1.labs⟩ : LR)] (by simp [maxLen]) (Nat.zero_le _)).rd
                refine hK.out _ _ (SX2.out _ D1) ?_
                clear hK K
                try simp only [Act.put, List.setIfInBounds_toArray, List.set_cons_zero, List.set_cons_succ]
                refine readyL (rs := [0]) (by kernel_rfl) (by simp) ?_
                refine AllReadyL.cons rfl (fun K hK => ?_) AllReadyL.nil
                rw [if_pos (by rfl)]
                go_simp
                have D2 := D1.alloc D1.size (.cells #[] 32)
                have rA := heap_alloc_new (wq.drew.alloc (.cells #[.slice x.2.1 x.1.labs.length x.2.2] 32)) (.cells #[] 32)
                have oA := Kd.own_empty (K := KLs) (B := wq.heap.size) rA D1.size
                refine hK.out _ _ (SX2.out _ D2) ?_
                clear hK K
                try simp only [Act.put, List.setIfInBounds_toArray, List.set_cons_zero, List.set_cons_succ]
                refine readyL (rs := [4]) (by kernel_rfl) (by simp) ?_
                refine AllReadyL.cons rfl (fun K hK => ?_) AllReadyL.nil
                refine Kd.step_appF (K := KLs) (w := _) rfl (.tmp 92) (.tmp 95) 63 rfl Tryd.underlying63 infoLs rfl wq.heap.size _ v1 [] _ (by simp [Act.eval]) (oA) (by simp [Act.eval]) (r1.below D2) (by have := LIM.out; first | (simp [maxLen]; done) | (simp [maxLen]; omega)) (by have := LIM.out; first | (simp; done) | (simp; omega)) D2.size ?_
                intro v4 w4 p4 b4 g4
                have D3 := D2.trans b4
                refine hK.out _ _ (SX2.out _ D3) ?_
                clear hK K
                try simp only [Act.put, List.setIfInBounds_toArray, List.set_cons_zero, List.set_cons_succ]
                rw [List.nil_append] at p4
                have rB4 := Kd.Rd.far g4 (rB.alloc _) (by simp [Value.ownBlock])
                refine readyL (rs := [11]) (by kernel_rfl) (by simp) ?_
                refine AllReadyL.cons rfl (fun K hK => ?_) AllReadyL.nil
                refine Kd.step_appF (K := KLs) (w := w4) rfl (.tmp 96) (.tmp 102) 63 rfl Tryd.underlying63 infoLs rfl wq.heap.size v4 _ _ [(⟨x.2.1, x.2.2, x.1.labs⟩ : LR)] (by simp [Act.eval]) (p4) (by simp [Act.eval]) (rB4) (by have := LIM.out; first | (simp [maxLen]; done) | (simp [maxLen]; omega)) (by have := LIM.out; first | (simp; done) | (simp; omega)) D3.size ?_
                intro v7 w7 p7 b7 g7
                have D7 := D3.trans b7
                refine hK.out _ _ (SX2.out _ D7) ?_
                clear hK K
                try simp only [Act.put, List.setIfInBounds_toArray, List.set_cons_zero, List.set_cons_succ]
                refine readyL (rs := [15]) (by kernel_rfl) (by simp) ?_
                refine AllReadyL.cons rfl (fun K hK => ?_) AllReadyL.nil
                refine Kd.step_appF (K := KLs) (w := w7) rfl (.tmp 103) (.tmp 106) 63 rfl Tryd.underlying63 infoLs rfl wq.heap.size v7 v2 _ _ (by simp [Act.eval]) (p7) (by simp [Act.eval]) (r2.below D7) (by have := LIM.out; first | (simp [maxLen]; done) | (simp [maxLen]; omega)) (by have := LIM.out; first | (simp; done) | (simp; omega)) D7.size ?_
                intro v8 w8 p8 b8 g8
                have D8 := D7.trans b8
                refine hK.out _ _ (SX2.out _ D8) ?_
                clear hK K
                try simp only [Act.put, List.setIfInBounds_toArray, List.set_cons_zero, List.set_cons_succ]
                refine readyL (rs := [16]) (by kernel_rfl) (by simp) ?_
                refine AllReadyL.last rfl (fun K hK => ?_)
                rw [if_pos (by rfl)]
                go_simp
                refine hK.out _ _ ?_
                clear hK K
                refine doneL (by kernel_rfl) ?_
                go_wp2_with fail
                go_roundw
                case rel => exact ⟨i + 1, _, by go_num, HLT.out, (by have := p8.mono (show w2.heap.size ≤ wq.heap.size by omega); simpa only [List.append_assoc, List.cons_append, List.nil_append, List.drop_zero] using this), FF, hbw.trans ((hbs.trans ((bq.trans (D8.mono bq.size)).mono hzs)).mono hz2)⟩
                case measure => have := HLT.out; simp [intOf]; omega
            · obtain ⟨jp, rfl⟩ : ∃ jp, k = jp + 1 := ⟨k - 1, by omega⟩
              have hjl : jp < L.length := by omega
              obtain ⟨g, og, hg, hgb, hgc⟩ := HO.out.2.at hjl
              subst hg
              have hym := HS.out.2.2 _ (List.getElem_mem hjl)
              have KY : ∀ wx, Below wo.heap.size wo wx → wx.cell? ⟨g, og + jp, none⟩ = some (.slice L[jp].A L[jp].l.length L[jp].c) := fun wx h => by
                have := (h.cell (p := ⟨g, og + (jp * 1 + 0), none⟩) hgb).trans (hgc 0 _ (by decide) rfl)
                rwa [Nat.mul_one, Nat.add_zero] at this
              have hC := fun wx (h : Below w2.heap.size w2 wx) => RefCompare_is _ _ x.1.labs L[jp].l wx (HXR.out.1.below h) (hym.1.below h) (by have := HXR.out.2; omega) (by have := hym.2; omega)
              have HLT2 : Hid (cmpL x.1.labs L[jp].l < 0 → ∀ j (hj : j < L.length), jp ≤ j → ltS x.1.labs L[j].l) := hid (fun h j hj h2 => by
                rcases Nat.lt_or_ge jp j with h3 | h3
                · exact HK.out j hj h3
                · have : j = jp := by omega
                  subst this
                  exact h)
              have HEQ : Hid (cmpL x.1.labs L[jp].l = 0 → SetsOf L (Y.take (i + 1))) := hid (fun h => by rw [HTK.out]; exact HS.out.1.same hjl ((listCmp.eq _ _).1 h))
              have HGT : Hid (0 < cmpL x.1.labs L[jp].l → SetsOf (L.take (jp + 1) ++ (⟨x.2.1, x.2.2, x.1.labs⟩ : LR) :: L.drop (jp + 1)) (Y.take (i + 1))) := hid (fun h => by
                rw [HTK.out]
                refine HS.out.1.ins hk (fun j hj h2 => HK.out j hj h2) (fun _ hj => ?_) _ rfl
                unfold ltS
                have := listCmp.neg x.1.labs L[jp].l
                simp only [Nat.add_sub_cancel]
                omega)
              have HYL2 := hid hym
              generalize cmpL x.1.labs L[jp].l = r at *
              generalize L[jp] = y at *
              have mkS : ∀ wx, Below wo.heap.size wo wx → Below wo.heap.size wo wx ∧ wx.cell? ⟨b, off + i * 4 + 2, none⟩ = some (.slice x.2.1 x.1.labs.length x.2.2) ∧ wx.cell? ⟨g, og + jp, none⟩ = some (.slice y.A y.l.length y.c) := fun wx h => ⟨h, HKX.out wx h, KY wx h⟩
              have hk9 := mkS ws.drew (hbs.trans ((Below.refl _ _).drew.mono hbs.size))
              have MK := hid mkS
              have zj : IntKind.i64.wrap (jp : Int) = (jp : Int) := by rw [IntKind.wrap_i64]; omega
              have zj0 : (0 : Int) < (jp : Int) + 1 := by omega
              have zjl : (jp : Int) < (L.length : Int) := by omega
              have HBS := hid (And.intro hbs (And.intro hk hjl))
              clear HK hgc hym KY mkS hk hjl hbs
              rcases Int.lt_trichotomy r 0 with hr | hr | hr
              · have hd : decide (r < 0) = true := decide_eq_true hr
                have HH := hid (HLT2.out hr)
                clear HLT2 HEQ HGT hr
                go_wp2_with fail
                go_region_held3 (fun wx => Below wo.heap.size wo wx ∧ wx.cell? ⟨b, off + i * 4 + 2, none⟩ = some (.slice x.2.1 x.1.labs.length x.2.2) ∧ wx.cell? ⟨g, og + jp, none⟩ = some (.slice y.A y.l.length y.c)) (exact hk9)
                  (first | (go_at_call 30; refine (hC _ (hbw.trans (hk9.1.mono hz2))).mono ?_; rintro e w5 ⟨rfl, b5⟩; have hk9 := MK.out _ (hk9.1.trans (b5.mono hk9.1.size))))
                go_wp2_with fail
                go_roundw
                case rel => exact ⟨jp, by go_num, by have := HBS.out.2.2; omega, hk9.1, HH⟩
                case measure => simp [intOf]
              · subst hr
                have hd : decide ((0 : Int) < 0) = false := by decide
                have HH := hid (HEQ.out rfl)
                clear HLT2 HEQ HGT
                go_wp2_with fail
                go_region_held3 (fun wx => Below wo.heap.size wo wx ∧ wx.cell? ⟨b, off + i * 4 + 2, none⟩ = some (.slice x.2.1 x.1.labs.length x.2.2) ∧ wx.cell? ⟨g, og + jp, none⟩ = some (.slice y.A y.l.length y.c)) (exact hk9)
                  (first | (go_at_call 30; refine (hC _ (hbw.trans (hk9.1.mono hz2))).mono ?_; rintro e w5 ⟨rfl, b5⟩; have hk9 := MK.out _ (hk9.1.trans (b5.mono hk9.1.size))))
                go_wp2_with fail
                have hk9 := MK.out w5.drew (hk9.1.trans ((Below.refl _ _).drew.mono hk9.1.size))
                go_region_held3 (fun wx => Below wo.heap.size wo wx ∧ wx.cell? ⟨b, off + i * 4 + 2, none⟩ = some (.slice x.2.1 x.1.labs.length x.2.2) ∧ wx.cell? ⟨g, og + jp, none⟩ = some (.slice y.A y.l.length y.c)) (exact hk9)
                  (first | (go_at_call 30; refine (hC _ (hbw.trans (hk9.1.mono hz2))).mono ?_; rintro e w6 ⟨rfl, b5⟩; have hk9 := MK.out _ (hk9.1.trans (b5.mono hk9.1.size))))
                go_wp2_with fail
                go_roundw
                case rel => exact ⟨i + 1, L, by go_num, HLT.out, HO.out.1.below hk9.1, hid ⟨HH.out, by have := HS.out.2.1; omega, HS.out.2.2⟩, hbw.trans (hk9.1.mono hz2)⟩
                case measure => have := HLT.out; simp [intOf]; omega
              · have hd : decide (r < 0) = false := decide_eq_false (by omega)
                have hd2 : (r == 0) = false := by simp; omega
                have FF := hid (FK.out (jp + 1) HBS.out.2.1 (HGT.out hr))
                clear HLT2 HEQ HGT hr FK
                go_wp2_with fail
                go_region_held3 (fun wx => Below wo.heap.size wo wx ∧ wx.cell? ⟨b, off + i * 4 + 2, none⟩ = some (.slice x.2.1 x.1.labs.length x.2.2) ∧ wx.cell? ⟨g, og + jp, none⟩ = some (.slice y.A y.l.length y.c)) (exact hk9)
                  (first | (go_at_call 30; refine (hC _ (hbw.trans (hk9.1.mono hz2))).mono ?_; rintro e w5 ⟨rfl, b5⟩; have hk9 := MK.out _ (hk9.1.trans (b5.mono hk9.1.size))))
                go_wp2_with fail
                have hk9 := MK.out w5.drew (hk9.1.trans ((Below.refl _ _).drew.mono hk9.1.size))
                go_region_held3 (fun wx => Below wo.heap.size wo wx ∧ wx.cell? ⟨b, off + i * 4 + 2, none⟩ = some (.slice x.2.1 x.1.labs.length x.2.2) ∧ wx.cell? ⟨g, og + jp, none⟩ = some (.slice y.A y.l.length y.c)) (exact hk9)
                  (first | (go_at_call 30; refine (hC _ (hbw.trans (hk9.1.mono hz2))).mono ?_; rintro e wq ⟨rfl, b5⟩; have hk9 := MK.out _ (hk9.1.trans (b5.mono hk9.1.size))))
                go_wp2_with fail
                have hjk := HBS.out.2.1
                have hs1 : ∀ wx, (Instr.slice 63 (.slice (some ⟨g, og, none⟩) L.length co) none (some (.int .i64 ((jp : Int) + 1))) none).run Tryd.prog wx = .ok (sliced (some ⟨g, og, none⟩) 0 (jp + 1) co 1) wx := fun wx => run_topL (hi := jp + 1) (by omega) wx
                have hs2 : ∀ wx, (Instr.slice 63 (.slice (some ⟨g, og, none⟩) L.length co) (some (.int .i64 ((jp : Int) + 1))) none none).run Tryd.prog wx = .ok (sliced (some ⟨g, og, none⟩) (jp + 1) L.length co 1) wx := fun wx => run_fromL (s := jp + 1) (by omega) wx
                have r1 := partL (HO.out.2.below hk9.1) 0 (jp + 1) (by omega) (by omega)
                have r2 := partL (HO.out.2.below hk9.1) (jp + 1) L.length (by omega) (Nat.le_refl _)
                rw [Nat.sub_zero, List.drop_zero] at r1
                rw [List.take_of_length_le (by rw [List.length_drop]; omega)] at r2
                have ll1 : (L.take (jp + 1)).length = jp + 1 := by rw [List.length_take]; omega
                have ll2 : (L.drop (jp + 1)).length = L.length - (jp + 1) := List.length_drop
                generalize sliced (some ⟨g, og, none⟩) 0 (jp + 1) co 1 = v1 at *
                generalize sliced (some ⟨g, og, none⟩) (jp + 1) L.length co 1 = v2 at *
                have bq := hk9.1
                have hzq := bq.size
                have SX2 : Hid (∀ wx, Below wq.heap.size wq wx → wx.cell? ⟨b, off + i * 4 + 2, none⟩ = some (.slice x.2.1 x.1.labs.length x.2.2)) := hid (fun wx h => HKX.out wx (bq.trans (h.mono hzq)))
                clear SX hk9 MK hC hjk
                refine wp_region_L 16 (fun wS => wS.cell? ⟨b, off + i * 4 + 2, none⟩ = some (.slice x.2.1 x.1.labs.length x.2.2)) (by kernel_rfl) ?_
                refine takeL (i := 1) (d := 93) (v := .slice (some ⟨g, og, none⟩) L.length co) rfl rfl (by kernel_rfl) (by kernel_rfl) (by kernel_rfl) (by kernel_rfl) (by kernel_rfl) (fun _ _ _ h => h) (Or.inl ⟨by rfl, fun wS hSw => by go_simp⟩) (SX2.out _ (Below.refl _ _).drew) ?_
                try simp only [List.setIfInBounds_toArray, List.set_cons_zero, List.set_cons_succ]
                refine takeL (i := 2) (d := 94) (v := .int .i64 ((jp : Int) + 1)) rfl rfl (by kernel_rfl) (by kernel_rfl) (by kernel_rfl) (by kernel_rfl) (by kernel_rfl) (fun _ _ _ h => h) (Or.inl ⟨by rfl, fun wS hSw => by go_simp⟩) (SX2.out _ (Below.refl _ _).drew) ?_
                try simp only [List.setIfInBounds_toArray, List.set_cons_zero, List.set_cons_succ]
                refine takeL (i := 3) (d := 95) (v := v1) rfl rfl (by kernel_rfl) (by kernel_rfl) (by kernel_rfl) (by kernel_rfl) (by kernel_rfl) (fun _ _ _ h => h) (Or.inl ⟨by rfl, fun wS hSw => by go_simp⟩) (SX2.out _ (Below.refl _ _).drew) ?_
                try simp only [List.setIfInBounds_toArray, List.set_cons_zero, List.set_cons_succ]
                refine takeL (i := 5) (d := 97) (v := .slice (some ⟨b, off, none⟩) Y.length c3) rfl rfl (by kernel_rfl) (by kernel_rfl) (by kernel_rfl) (by kernel_rfl) (by kernel_rfl) (fun _ _ _ h => h) (Or.inl ⟨by rfl, fun wS hSw => by go_simp⟩) (SX2.out _ (Below.refl _ _).drew) ?_
                try simp only [List.setIfInBounds_toArray, List.set_cons_zero, List.set_cons_succ]
                refine takeL (i := 6) (d := 98) (v := .int .i64 (i : Int)) rfl rfl (by kernel_rfl) (by kernel_rfl) (by kernel_rfl) (by kernel_rfl) (by kernel_rfl) (fun _ _ _ h => h) (Or.inl ⟨by rfl, fun wS hSw => by go_simp⟩) (SX2.out _ (Below.refl _ _).drew) ?_
                try simp only [List.setIfInBounds_toArray, List.set_cons_zero, List.set_cons_succ]
                refine takeL (i := 7) (d := 99) (v := .pointer (some ⟨b, off + i * 4, none⟩)) rfl rfl (by kernel_rfl) (by kernel_rfl) (by kernel_rfl) (by kernel_rfl) (by kernel_rfl) (fun _ _ _ h => h) (Or.inl ⟨by rfl, fun wS hSw => by go_simp⟩) (SX2.out _ (Below.refl _ _).drew) ?_
                try simp only [List.setIfInBounds_toArray, List.set_cons_zero, List.set_cons_succ]
                refine takeL (i := 8) (d := 100) (v := .pointer (some ⟨b, off + i * 4 + 2, none⟩)) rfl rfl (by kernel_rfl) (by kernel_rfl) (by kernel_rfl) (by kernel_rfl) (by kernel_rfl) (fun _ _ _ h => h) (Or.inl ⟨by rfl, fun wS hSw => by go_simp⟩) (SX2.out _ (Below.refl _ _).drew) ?_
                try simp only [List.setIfInBounds_toArray, List.set_cons_zero, List.set_cons_succ]
                refine takeL (i := 9) (d := 101) (v := .slice x.2.1 x.1.labs.length x.2.2) rfl rfl (by kernel_rfl) (by kernel_rfl) (by kernel_rfl) (by kernel_rfl) (by kernel_rfl) (fun _ _ _ h => h) (Or.inl ⟨by rfl, fun wS hSw => by go_simp⟩) (SX2.out _ (Below.refl _ _).drew) ?_
                try simp only [List.setIfInBounds_toArray, List.set_cons_zero, List.set_cons_succ]
                refine takeL (i := 12) (d := 104) (v := .slice (some ⟨g, og, none⟩) L.length co) rfl rfl (by kernel_rfl) (by kernel_rfl) (by kernel_rfl) (by kernel_rfl) (by kernel_rfl) (fun _ _ _ h => h) (Or.inl ⟨by rfl, fun wS hSw => by go_simp⟩) (SX2.out _ (Below.refl _ _).drew) ?_
                try simp only [List.setIfInBounds_toArray, List.set_cons_zero, List.set_cons_succ]
                refine takeL (i := 13) (d := 105) (v := .int .i64 ((jp : Int) + 1)) rfl rfl (by kernel_rfl) (by kernel_rfl) (by kernel_rfl) (by kernel_rfl) (by kernel_rfl) (fun _ _ _ h => h) (Or.inl ⟨by rfl, fun wS hSw => by go_simp⟩) (SX2.out _ (Below.refl _ _).drew) ?_
                try simp only [List.setIfInBounds_toArray, List.set_cons_zero, List.set_cons_succ]
                refine takeL (i := 14) (d := 106) (v := v2) rfl rfl (by kernel_rfl) (by kernel_rfl) (by kernel_rfl) (by kernel_rfl) (by kernel_rfl) (fun _ _ _ h => h) (Or.inl ⟨by rfl, fun wS hSw => by go_simp⟩) (SX2.out _ (Below.refl _ _).drew) ?_
                try simp only [List.setIfInBounds_toArray, List.set_cons_zero, List.set_cons_succ]
                have D0 : Below wq.heap.size wq wq.drew := (Below.refl _ _).drew
                refine readyL (rs := [0, 10]) (by kernel_rfl) (by simp) ?_
                refine AllReadyL.cons rfl (fun K hK => ?_) (AllReadyL.cons rfl (fun K hK => ?_) AllReadyL.nil)
                · rw [if_pos (by rfl)]
                  go_simp
                  have D1 := D0.alloc D0.size (.cells #[] 32)
                  have rA := heap_alloc_new wq.drew (.cells #[] 32)
                  have oA := Kd.own_empty (K := KLs) (B := wq.heap.size) rA D0.size
                  refine hK.out _ _ (SX2.out _ D1) ?_
                  clear hK K
                  try simp only [Act.put, List.setIfInBounds_toArray, List.set_cons_zero, List.set_cons_succ]
                  refine readyL (rs := [4, 10]) (by kernel_rfl) (by simp) ?_
                  refine AllReadyL.cons rfl (fun K hK => ?_) (AllReadyL.cons rfl (fun K hK => ?_) AllReadyL.nil)
                  · refine Kd.step_appF (K := KLs) (w := wq.drew.alloc (.cells #[] 32)) rfl (.tmp 92) (.tmp 95) 63 rfl Tryd.underlying63 infoLs rfl wq.heap.size _ v1 [] _ (by simp [Act.eval]) (oA) (by simp [Act.eval]) (r1.below D1) (by have := LIM.out; first | (simp [maxLen]; done) | (simp [maxLen]; omega)) (by have := LIM.out; first | (simp; done) | (simp; omega)) D1.size ?_
                    intro v4 w4 p4 b4 g4
                    have D2 := D1.trans b4
                    refine hK.out _ _ (SX2.out _ D2) ?_
                    clear hK K
                    try simp only [Act.put, List.setIfInBounds_toArray, List.set_cons_zero, List.set_cons_succ]
                    rw [List.nil_append] at p4
                    refine readyL (rs := [10]) (by kernel_rfl) (by simp) ?_
                    refine AllReadyL.cons rfl (fun K hK => ?_) AllReadyL.nil
                    rw [if_pos (by rfl)]
                    go_simp
                    have D3 := D2.alloc D2.size (.cells #[.slice x.2.1 x.1.labs.length x.2.2] 32)
                    have rB : KLs.Rd _ (.slice (some ⟨w4.heap.size, 0, none⟩) 1 1) [(⟨x.2.1, x.2.2, x.1.labs⟩ : LR)] := (Kd.Own.lit (K := KLs) w4 (B := 0) [(⟨x.2.1, x.2.2, x.1.labs⟩ : LR)] (by simp [maxLen]) (Nat.zero_le _)).rd
                    refine hK.out _ _ (SX2.out _ D3) ?_
                    clear hK K
                    try simp only [Act.put, List.setIfInBounds_toArray, List.set_cons_zero, List.set_cons_succ]
                    refine readyL (rs := [11]) (by kernel_rfl) (by simp) ?_
                    refine AllReadyL.cons rfl (fun K hK => ?_) AllReadyL.nil
                    refine Kd.step_appF (K := KLs) (w := _) rfl (.tmp 96) (.tmp 102) 63 rfl Tryd.underlying63 infoLs rfl wq.heap.size v4 _ _ [(⟨x.2.1, x.2.2, x.1.labs⟩ : LR)] (by simp [Act.eval]) (p4.alloc _) (by simp [Act.eval]) (rB) (by have := LIM.out; first | (simp [maxLen]; done) | (simp [maxLen]; omega)) (by have := LIM.out; first | (simp; done) | (simp; omega)) D3.size ?_
                    intro v7 w7 p7 b7 g7
                    have D7 := D3.trans b7
                    refine hK.out _ _ (SX2.out _ D7) ?_
                    clear hK K
                    try simp only [Act.put, List.setIfInBounds_toArray, List.set_cons_zero, List.set_cons_succ]
                    refine readyL (rs := [15]) (by kernel_rfl) (by simp) ?_
                    refine AllReadyL.cons rfl (fun K hK => ?_) AllReadyL.nil
                    refine Kd.step_appF (K := KLs) (w := w7) rfl (.tmp 103) (.tmp 106) 63 rfl Tryd.underlying63 infoLs rfl wq.heap.size v7 v2 _ _ (by simp [Act.eval]) (p7) (by simp [Act.eval]) (r2.below D7) (by have := LIM.out; first | (simp [maxLen]; done) | (simp [maxLen]; omega)) (by have := LIM.out; first | (simp; done) | (simp; omega)) D7.size ?_
                    intro v8 w8 p8 b8 g8
                    have D8 := D7.trans b8
                    refine hK.out _ _ (SX2.out _ D8) ?_
                    clear hK K
                    try simp only [Act.put, List.setIfInBounds_toArray, List.set_cons_zero, List.set_cons_succ]
                    refine readyL (rs := [16]) (by kernel_rfl) (by simp) ?_
                    refine AllReadyL.last rfl (fun K hK => ?_)
                    rw [if_pos (by rfl)]
                    go_simp
                    refine hK.out _ _ ?_
                    clear hK K
                    refine doneL (by kernel_rfl) ?_
                    go_wp2_with fail
                    go_roundw
                    case rel => exact ⟨i + 1, _, by go_num, HLT.out, (by have := p8.mono (show w2.heap.size ≤ wq.heap.size by omega); simpa only [List.append_assoc, List.cons_append, List.nil_append] using this), FF, hbw.trans ((bq.trans (D8.mono hzq)).mono hz2)⟩
                    case measure => have := HLT.out; simp [intOf]; omega
                  · rw [if_pos (by rfl)]
                    go_simp
                    have D2 := D1.alloc D1.size (.cells #[.slice x.2.1 x.1.labs.length x.2.2] 32)
                    have rB : KLs.Rd _ (.slice (some ⟨(wq.drew.alloc (.cells #[] 32)).heap.size, 0, none⟩) 1 1) [(⟨x.2.1, x.2.2, x.1.labs⟩ : LR)] := (Kd.Own.lit (K := KLs) (wq.drew.alloc (.cells #[] 32)) (B := 0) [(⟨x.2.1, x.2.2, x.1.labs⟩ : LR)] (by simp [maxLen]) (Nat.zero_le _)).rd
                    refine hK.out _ _ (SX2.out _ D2) ?_
                    clear hK K
                    try simp only [Act.put, List.setIfInBounds_toArray, List.set_cons_zero, List.set_cons_succ]
                    refine readyL (rs := [4]) (by kernel_rfl) (by simp) ?_
                    refine AllReadyL.cons rfl (fun K hK => ?_) AllReadyL.nil
                    refine Kd.step_appF (K := KLs) (w := _) rfl (.tmp 92) (.tmp 95) 63 rfl Tryd.underlying63 infoLs rfl wq.heap.size _ v1 [] _ (by simp [Act.eval]) (oA.alloc _) (by simp [Act.eval]) (r1.below D2) (by have := LIM.out; first | (simp [maxLen]; done) | (simp [maxLen]; omega)) (by have := LIM.out; first | (simp; done) | (simp; omega)) D2.size ?_
                    intro v4 w4 p4 b4 g4
                    have D3 := D2.trans b4
                    refine hK.out _ _ (SX2.out _ D3) ?_
                    clear hK K
                    try simp only [Act.put, List.setIfInBounds_toArray, List.set_cons_zero, List.set_cons_succ]
                    rw [List.nil_append] at p4
                    have rB4 := Kd.Rd.far g4 rB (by simp [Value.ownBlock])
                    refine readyL (rs := [11]) (by kernel_rfl) (by simp) ?_
                    refine AllReadyL.cons rfl (fun K hK => ?_) AllReadyL.nil
                    refine Kd.step_appF (K := KLs) (w := w4) rfl (.tmp 96) (.tmp 102) 63 rfl Tryd.underlying63 infoLs rfl wq.heap.size v4 _ _ [(⟨x.2.1, x.2.2, x.1.labs⟩ : LR)] (by simp [Act.eval]) (p4) (by simp [Act.eval]) (rB4) (by have := LIM.out; first | (simp [maxLen]; done) | (simp [maxLen]; omega)) (by have := LIM.out; first | (simp; done) | (simp; omega)) D3.size ?_
                    intro v7 w7 p7 b7 g7
                    have D7 := D3.trans b7
                    refine hK.out _ _ (SX2.out _ D7) ?_
                    clear hK K
                    try simp only [Act.put, List.setIfInBounds_toArray, List.set_cons_zero, List.set_cons_succ]
                    refine readyL (rs := [15]) (by kernel_rfl) (by simp) ?_
                    refine AllReadyL.cons rfl (fun K hK => ?_) AllReadyL.nil
                    refine Kd.step_appF (K := KLs) (w := w7) rfl (.tmp 103) (.tmp 106) 63 rfl Tryd.underlying63 infoLs rfl wq.heap.size v7 v2 _ _ (by simp [Act.eval]) (p7) (by simp [Act.eval]) (r2.below D7) (by have := LIM.out; first | (simp [maxLen]; done) | (simp [maxLen]; omega)) (by have := LIM.out; first | (simp; done) | (simp; omega)) D7.size ?_
                    intro v8 w8 p8 b8 g8
                    have D8 := D7.trans b8
                    refine hK.out _ _ (SX2.out _ D8) ?_
                    clear hK K
                    try simp only [Act.put, List.setIfInBounds_toArray, List.set_cons_zero, List.set_cons_succ]
                    refine readyL (rs := [16]) (by kernel_rfl) (by simp) ?_
                    refine AllReadyL.last rfl (fun K hK => ?_)
                    rw [if_pos (by rfl)]
                    go_simp
                    refine hK.out _ _ ?_
                    clear hK K
                    refine doneL (by kernel_rfl) ?_
                    go_wp2_with fail
                    go_roundw
                    case rel => exact ⟨i + 1, _, by go_num, HLT.out, (by have := p8.mono (show w2.heap.size ≤ wq.heap.size by omega); simpa only [List.append_assoc, List.cons_append, List.nil_append] using this), FF, hbw.trans ((bq.trans (D8.mono hzq)).mono hz2)⟩
                    case measure => have := HLT.out; simp [intOf]; omega
                · rw [if_pos (by rfl)]
                  go_simp
                  have D1 := D0.alloc D0.size (.cells #[.slice x.2.1 x.1.labs.length x.2.2] 32)
                  have rB : KLs.Rd _ (.slice (some ⟨wq.drew.heap.size, 0, none⟩) 1 1) [(⟨x.2.1, x.2.2, x.1.labs⟩ : LR)] := (Kd.Own.lit (K := KLs) wq.drew (B := 0) [(⟨x.2.1, x.2.2, x.1.labs⟩ : LR)] (by simp [maxLen]) (Nat.zero_le _)).rd
                  refine hK.out _ _ (SX2.out _ D1) ?_
                  clear hK K
                  try simp only [Act.put, List.setIfInBounds_toArray, List.set_cons_zero, List.set_cons_succ]
                  refine readyL (rs := [0]) (by kernel_rfl) (by simp) ?_
                  refine AllReadyL.cons rfl (fun K hK => ?_) AllReadyL.nil
                  rw [if_pos (by rfl)]
                  go_simp
                  have D2 := D1.alloc D1.size (.cells #[] 32)
                  have rA := heap_alloc_new (wq.drew.alloc (.cells #[.slice x.2.1 x.1.labs.length x.2.2] 32)) (.cells #[] 32)
                  have oA := Kd.own_empty (K := KLs) (B := wq.heap.size) rA D1.size
                  refine hK.out _ _ (SX2.out _ D2) ?_
                  clear hK K
                  try simp only [Act.put, List.setIfInBounds_toArray, List.set_cons_zero, List.set_cons_succ]
                  refine readyL (rs := [4]) (by kernel_rfl) (by simp) ?_
                  refine AllReadyL.cons rfl (fun K hK => ?_) AllReadyL.nil
                  refine Kd.step_appF (K := KLs) (w := _) rfl (.tmp 92) (.tmp 95) 63 rfl Tryd.underlying63 infoLs rfl wq.heap.size _ v1 [] _ (by simp [Act.eval]) (oA) (by simp [Act.eval]) (r1.below D2) (by have := LIM.out; first | (simp [maxLen]; done) | (simp [maxLen]; omega)) (by have := LIM.out; first | (simp; done) | (simp; omega)) D2.size ?_
                  intro v4 w4 p4 b4 g4
                  have D3 := D2.trans b4
                  refine hK.out _ _ (SX2.out _ D3) ?_
                  clear hK K
                  try simp only [Act.put, List.setIfInBounds_toArray, List.set_cons_zero, List.set_cons_succ]
                  rw [List.nil_append] at p4
                  have rB4 := Kd.Rd.far g4 (rB.alloc _) (by simp [Value.ownBlock])
                  refine readyL (rs := [11]) (by kernel_rfl) (by simp) ?_
                  refine AllReadyL.cons rfl (fun K hK => ?_) AllReadyL.nil
                  refine Kd.step_appF (K := KLs) (w := w4) rfl (.tmp 96) (.tmp 102) 63 rfl Tryd.underlying63 infoLs rfl wq.heap.size v4 _ _ [(⟨x.2.1, x.2.2, x.1.labs⟩ : LR)] (by simp [Act.eval]) (p4) (by simp [Act.eval]) (rB4) (by have := LIM.out; first | (simp [maxLen]; done) | (simp [maxLen]; omega)) (by have := LIM.out; first | (simp; done) | (simp; omega)) D3.size ?_
                  intro v7 w7 p7 b7 g7
                  have D7 := D3.trans b7
                  refine hK.out _ _ (SX2.out _ D7) ?_
                  clear hK K
                  try simp only [Act.put, List.setIfInBounds_toArray, List.set_cons_zero, List.set_cons_succ]
                  refine readyL (rs := [15]) (by kernel_rfl) (by simp) ?_
                  refine AllReadyL.cons rfl (fun K hK => ?_) AllReadyL.nil
                  refine Kd.step_appF (K := KLs) (w := w7) rfl (.tmp 103) (.tmp 106) 63 rfl Tryd.underlying63 infoLs rfl wq.heap.size v7 v2 _ _ (by simp [Act.eval]) (p7) (by simp [Act.eval]) (r2.below D7) (by have := LIM.out; first | (simp [maxLen]; done) | (simp [maxLen]; omega)) (by have := LIM.out; first | (simp; done) | (simp; omega)) D7.size ?_
                  intro v8 w8 p8 b8 g8
                  have D8 := D7.trans b8
                  refine hK.out _ _ (SX2.out _ D8) ?_
                  clear hK K
                  try simp only [Act.put, List.setIfInBounds_toArray, List.set_cons_zero, List.set_cons_succ]
                  refine readyL (rs := [16]) (by kernel_rfl) (by simp) ?_
                  refine AllReadyL.last rfl (fun K hK => ?_)
                  rw [if_pos (by rfl)]
                  go_simp
                  refine hK.out _ _ ?_
                  clear hK K
                  refine doneL (by kernel_rfl) ?_
                  go_wp2_with fail
                  go_roundw
                  case rel => exact ⟨i + 1, _, by go_num, HLT.out, (by have := p8.mono (show w2.heap.size ≤ wq.heap.size by omega); simpa only [List.append_assoc, List.cons_append, List.nil_append] using this), FF, hbw.trans ((bq.trans (D8.mono hzq)).mono hz2)⟩
                  case measure => have := HLT.out; simp [intOf]; omega
        · have hie : i = Y.length := by omega
          have HSY : Hid (SetsOf L Y ∧ L.length ≤ Y.length ∧ ∀ r ∈ L, RdL w2 (.slice r.A r.l.length r.c) r.l ∧ r.l.length * 32 ≤ 140737488351232) := hid (by
            have := HS.out
            rw [hie, List.take_of_length_le (Nat.le_refl _)] at this
            exact this)
          have hne2 : ¬ (i : Int) < (Y.length : Int) := by omega
          clear hie HS hi
          have ho2 := ho.rd
          obtain ⟨AL, cL, rfl, hlcL⟩ := ho2.form
          have HO := hid ho2
          clear ho ho2 hlt
          have HBW3 := hid hbw
          clear hbw
          go_wp2_with fail
          -- THIRD
          obtain ⟨W3, hW3⟩ : ∃ W3, W3 = wr := ⟨_, rfl⟩
          rw [← hW3]
          rw [← hW3] at HO HBW3
          clear hW3
          have HSn : Hid (Y.map (·.1) = S ∧ Y.length * 56 ≤ 140737488351232 ∧ S.length = Y.length) := hid ⟨HST.out.2.2, HYL.out, by rw [← HST.out.2.2, List.length_map]⟩
          go_loopw [9, 10] (fun ov sv wr => ∃ (s : Nat) (m : List CV), sv = .int .i64 s ∧ s ≤ L.length ∧ Hid (OwC 35 KRr wr W3.heap.size ov m) ∧ Hid (m.map CV.bare = outS S ((L.take s).map (·.l))) ∧ Hid (Below W3.heap.size W3 wr)) (fun _ sv _ => L.length - (intOf sv).toNat)
          case atStart => exact ⟨0, [], rfl, by omega, hid (OwC.nil _ _ _ _), hid rfl, hid (Below.refl _ _)⟩
          case round =>
            obtain ⟨s, m, rfl, hs, HM, HC, HW⟩ := hrel
            have hLm2 : L.length ≤ 4611686018427387903 := by have := HSY.out.2.1; have := HYL.out; omega
            by_cases hsl : s < L.length
            · obtain ⟨gL, oL, hgL, hgb, hgc⟩ := HO.out.at hsl
              subst hgL
              have HSn1 : Hid ((L.take (s + 1)).map (·.l) = (L.take s).map (·.l) ++ [L[s].l]) := hid (by rw [List.take_succ_eq_append_getElem hsl, List.map_append]; rfl)
              have HRR : Hid (RdL w2 (.slice L[s].A L[s].l.length L[s].c) L[s].l ∧ L[s].l.length * 32 ≤ 140737488351232) := hid (HSY.out.2.2 _ (List.getElem_mem hsl))
              have HNE : Hid (ofS L[s].l S ≠ []) := hid (fun e => by
                obtain ⟨y, hy, e2⟩ := (HSY.out.1.2 L[s].l).1 (List.mem_map.2 ⟨_, List.getElem_mem hsl, rfl⟩)
                have : y.1 ∈ ofS L[s].l S := List.mem_filter.2 ⟨by rw [← HST.out.2.2]; exact List.mem_map.2 ⟨y, hy, rfl⟩, by simpa using e2⟩
                rw [e] at this
                cases this)
              have HPW : Hid (((L.take (s + 1)).map (·.l)).Pairwise ltS) := hid ((HSY.out.1.1).sublist ((List.take_sublist _ _).map _))
              have KL : Hid (∀ wx, Below W3.heap.size W3 wx → wx.cell? ⟨gL, oL + s, none⟩ = some (.slice L[s].A L[s].l.length L[s].c)) := hid (fun wx h => by
                have := (h.cell (p := ⟨gL, oL + (s * 1 + 0), none⟩) hgb).trans (hgc 0 _ (by decide) rfl)
                rwa [Nat.mul_one, Nat.add_zero] at this)
              have HLT := hid hsl
              have HBD : Hid (m.length + (ofS L[s].l S).length ≤ S.length) := hid (by
                have h1 := outS_len2 S ((L.take s).map (·.l)) L[s].l (by have h9 := HPW.out; rw [HSn1.out] at h9; exact h9)
                rw [← HC.out, List.length_map] at h1
                exact h1)
              generalize L[s] = r at *
              clear hgc hgb hsl
              have c0 := KL.out wr HW.out
              have c0a : ∀ o, (wr.alloc o).cell? ⟨gL, oL + s, none⟩ = _ := fun o => KL.out _ (HW.out.alloc HW.out.size o)
              have bwz : Below w2.heap.size w2 wr := HBW3.out.trans (HW.out.mono HBW3.out.size)
              have rdA : ∀ o, KLb.Rd (wr.alloc o) (.slice r.A r.l.length r.c) r.l := fun o => ((HRR.out.1.below bwz).alloc o).klb
              have ow0 : KLb.Own (wr.alloc (.cells #[] 65)) W3.heap.size (.slice (some ⟨wr.heap.size, 0, none⟩) 0 0) [] := Kd.Own.lit (K := KLb) wr [] (by simp) HW.out.size
              have hsi : (s : Int) < (L.length : Int) := by have := HLT.out; omega
              clear bwz
              go_wp2_with (first
                | (at_builtin; refine Kd.wp_app (K := KLb) rfl (.tmp 114) (.tmp 118) 32 rfl Tryd.underlying32 infoLab rfl W3.heap.size _ _ [] r.l rfl ow0 rfl (rdA _) (by have := HRR.out.2; simp [maxLen]; omega) (by have := HRR.out.2; simp; omega) (by have := HW.out.size; simp; omega) ?_; intro v5 w5 o5 b5 g5 n5; rw [List.nil_append] at o5; obtain ⟨A5, k5, rfl, _⟩ := o5.rd.form; have bq5 := below_fresh g5; clear n5 g5 rdA ow0)
                | fail)
              have bw5 : Below W3.heap.size W3 w5 := (HW.out.alloc HW.out.size _).trans b5
              have HI0 := hid (Inn.start (HM.out.below bq5) bw5 o5)
              clear o5 b5 bq5 c0 c0a bw5
              go_loopw [9, 12] (fun ov iv wi => ∃ (i : Nat) (m' : List CV) (ex : List (List Lab × List CRow)) (cr : List CRow) (A5 : Option Addr) (k5 : Nat) (A9 : Option Addr) (k9 : Nat), iv = .int .i64 i ∧ i ≤ Y.length ∧ Hid (Inn wi W3 w5.heap.size ov (.slice A5 r.l.length k5) (.slice A9 cr.length k9) m' r.l cr) ∧ Hid (m'.map CV.bare = m.map CV.bare ++ ex ∧ PcInv r.l (ofS r.l (S.take i)) ex cr)) (fun _ iv _ => Y.length - (intOf iv).toNat)
              case atStart => exact ⟨0, m, [], [], A5, k5, none, 0, rfl, by omega, HI0, hid ⟨by simp, PcInv.nil _⟩⟩
              case round =>
                obtain ⟨j, m', ex, cr, A5, k5, A9, k9, rfl, hj, HI, HX⟩ := hrel
                clear HI0
                by_cases hjl : j < Y.length
                · obtain ⟨b, off, rfl, hb, hcl⟩ := hcell3 (by omega)
                  have hcl := hcl j hjl
                  have hxm := List.getElem_mem hjl
                  have HXR : Hid (RdL w2 (.slice Y[j].2.1 Y[j].1.labs.length Y[j].2.2) Y[j].1.labs ∧ Y[j].1.labs.length * 32 ≤ 140737488351232) := hid ⟨HL3.out _ hxm, HYZ.out _ hxm⟩
                  have KY : Hid (∀ wx, Below W3.heap.size W3 wx → wx.cell? ⟨b, off + j * 4, none⟩ = some (.int .i64 Y[j].1.seq) ∧ wx.cell? ⟨b, off + j * 4 + 1, none⟩ = some (.int .i64 Y[j].1.time) ∧ wx.cell? ⟨b, off + j * 4 + 2, none⟩ = some (.slice Y[j].2.1 Y[j].1.labs.length Y[j].2.2) ∧ wx.cell? ⟨b, off + j * 4 + 3, none⟩ = some (.string ⟨Y[j].1.line.toArray⟩)) := hid (fun wx h => by
                    have hbb := HBW3.out.trans (h.mono HBW3.out.size)
                    exact ⟨(hbb.cell (p := ⟨b, off + j * 4, none⟩) hb).trans hcl.1, (hbb.cell (p := ⟨b, off + j * 4 + 1, none⟩) hb).trans hcl.2.1, (hbb.cell (p := ⟨b, off + j * 4 + 2, none⟩) hb).trans hcl.2.2.1, (hbb.cell (p := ⟨b, off + j * 4 + 3, none⟩) hb).trans hcl.2.2.2⟩)
                  have HTS : Hid (ofS r.l (S.take (j + 1)) = if Y[j].1.labs = r.l then ofS r.l (S.take j) ++ [Y[j].1] else ofS r.l (S.take j)) := hid (by
                    rw [← HSn.out.1, ← List.map_take, ← List.map_take, List.take_succ_eq_append_getElem hjl, List.map_append]
                    exact ofS_snoc _ _ _)
                  have HJL := hid hjl
                  have hN := hid hcell3
                  generalize Y[j] = x at *
                  obtain ⟨⟨sq, tm, lb, ln⟩, Ax, cx⟩ := x
                  simp only at HXR KY HTS
                  have hjI : (j : Int) < (Y.length : Int) := by omega
                  have hSb : Y.length * 56 ≤ 140737488351232 := HSn.out.2.1
                  have b3w := HI.out.bel
                  have hC := fun wx (h : Below W3.heap.size W3 wx) => RefCompare_is _ _ lb r.l wx (HXR.out.1.below (HBW3.out.trans (h.mono HBW3.out.size))) (HRR.out.1.below (HBW3.out.trans (h.mono HBW3.out.size))) (by have := HXR.out.2; omega) (by have := HRR.out.2; omega)
                  have mkS : ∀ wx, Below wr.heap.size wr wx → Below wr.heap.size wr wx ∧ wx.cell? ⟨b, off + j * 4 + 2, none⟩ = some (.slice Ax lb.length cx) ∧ wx.cell? ⟨gL, oL + s, none⟩ = some (.slice r.A r.l.length r.c) := fun wx h => ⟨h, (KY.out wx (b3w.trans (h.mono b3w.size))).2.2.1, KL.out wx (b3w.trans (h.mono b3w.size))⟩
                  have hk9 := mkS wr.drew (Below.refl _ _).drew
                  have MK := hid mkS
                  have HCE : Hid (cmpL lb r.l = 0 ↔ lb = r.l) := hid (listCmp.eq _ _)
                  generalize cmpL lb r.l = rr at *
                  have hb3z := b3w.size
                  clear hcl hxm hcell3 mkS hjl hb
                  by_cases hr : rr = 0
                  · have hd : (rr != 0) = false := by simp [hr]
                    have hlb := HCE.out.1 hr
                    have HT2 : Hid (ofS r.l (S.take (j + 1)) = ofS r.l (S.take j) ++ [(⟨sq, tm, lb, ln⟩ : Ent)]) := hid (by rw [HTS.out, if_pos hlb])
                    clear hr hlb HTS HCE
                    go_wp2_with fail
                    go_region_held3 (fun wx => Below wr.heap.size wr wx ∧ wx.cell? ⟨b, off + j * 4 + 2, none⟩ = some (.slice Ax lb.length cx) ∧ wx.cell? ⟨gL, oL + s, none⟩ = some (.slice r.A r.l.length r.c)) (exact hk9)
                      (first | (go_at_call 30; refine (hC _ (b3w.trans (hk9.1.mono hb3z))).mono ?_; rintro e w6 ⟨rfl, b6⟩; have hk9 := MK.out _ (hk9.1.trans (b6.mono hk9.1.size))))
                    have HI6 := hid (HI.out.below hk9.1)
                    have hle := HX.out.2.le
                    have hbox := HI6.out.box
                    have d0 : w6.cell? ⟨w5.heap.size, 0, none⟩ = some (.slice A5 r.l.length k5) := held_cell hbox rfl
                    have d1 : w6.cell? ⟨w5.heap.size, 1, none⟩ = some (.slice A9 cr.length k9) := held_cell hbox rfl
                    have f0 : w6.frozen? ⟨w5.heap.size, 0, none⟩ = false := held_frozen hbox
                    have f1 : w6.frozen? ⟨w5.heap.size, 1, none⟩ = false := held_frozen hbox
                    have b36 := HI6.out.bel
                    have hz36 := b36.size
                    clear hk9 MK hC
                    by_cases hfull : cr.length = 1000
                    · have g1 : ((cr.length : Int) == 1000) = true := by simp [hfull]
                      have HFU := hid hfull
                      have HXN : Hid ((m' ++ [(⟨r.l, A5, k5, cr, A9, k9⟩ : CV)]).map CV.bare = m.map CV.bare ++ (ex ++ [(r.l, cr)]) ∧ PcInv r.l (ofS r.l (S.take (j + 1))) (ex ++ [(r.l, cr)]) [(⟨sq, tm, ln⟩ : CRow)]) := hid (by
                        refine ⟨by rw [List.map_append, HX.out.1, List.append_assoc]; rfl, ?_⟩
                        rw [HT2.out]
                        exact HX.out.2.full _ hfull)
                      have hml : m'.length + 1 ≤ S.length := by
                        have h1 := HX.out.2.len (fun e => by rw [e] at hfull; simp at hfull)
                        have h2 := congrArg List.length HX.out.1
                        rw [List.length_map, List.length_append, List.length_map] at h2
                        have h3 := HBD.out
                        have h4 := ofS_take r.l S j
                        omega
                      have hSS := HSn.out.2.2
                      clear hbox hfull hle
                      go_wp2_with (first
                        | (at_builtin; refine Kd.wp_app1A (K := KC 35) rfl (.tmp 142) (.tmp 144) 27 rfl Tryd.underlying27 infoCr rfl W3.heap.size u9 m' (⟨r.l, A5, k5, cr, A9, k9⟩ : CV) rfl HI6.out.out.1 rfl rfl rfl (by unfold maxLen; omega) (by omega) hz36 ?_; intro v7 w7 o7 b7 g7 n7
                           obtain ⟨PO, PB, PX, PN⟩ := HI6.out.push o7 g7 n7
                           have c1 : w7.cell? ⟨gL, oL + s, none⟩ = _ := KL.out w7 PB
                           have c1a : ∀ o, (w7.alloc o).cell? ⟨gL, oL + s, none⟩ = _ := fun o => KL.out _ (PB.alloc PB.size o)
                           have bwz : Below w2.heap.size w2 w7 := HBW3.out.trans (PB.mono HBW3.out.size)
                           have rdA : ∀ o, KLb.Rd (w7.alloc o) (.slice r.A r.l.length r.c) r.l := fun o => ((HRR.out.1.below bwz).alloc o).klb
                           have ow0 : KLb.Own (w7.alloc (.cells #[] 65)) W3.heap.size (.slice (some ⟨w7.heap.size, 0, none⟩) 0 0) [] := Kd.Own.lit (K := KLb) w7 [] (by simp) PB.size
                           have PP := hid (And.intro PO (And.intro PB (And.intro PX PN)))
                           have hz7 := PB.size
                           clear PO PB PX PN bwz)
                        | (at_builtin; refine Kd.wp_app (K := KLb) rfl (.tmp 146) (.tmp 150) 32 rfl Tryd.underlying32 infoLab rfl W3.heap.size _ _ [] r.l rfl ow0 rfl (rdA _) (by have := HRR.out.2; simp [maxLen]; omega) (by have := HRR.out.2; simp; omega) (by rw [World.size_alloc]; omega) ?_; intro v8 w8 o8 b8 g8 n8; rw [List.nil_append] at o8; obtain ⟨A8, k8, rfl, _⟩ := o8.rd.form; have bq8 := below_fresh g8
                           have AN := hid (Inn.anew PP.out.1 PP.out.2.1 PP.out.2.2.1 PP.out.2.2.2 HI6.out.hq bq8 o8)
                           have e0 : w8.cell? ⟨w5.heap.size, 0, none⟩ = some (.slice A5 r.l.length k5) := held_cell AN.out.1 rfl
                           have e1 : w8.cell? ⟨w5.heap.size, 1, none⟩ = some (.slice A9 cr.length k9) := held_cell AN.out.1 rfl
                           have q0 : w8.frozen? ⟨w5.heap.size, 0, none⟩ = false := held_frozen AN.out.1
                           have q1 : w8.frozen? ⟨w5.heap.size, 1, none⟩ = false := held_frozen AN.out.1
                           clear n8 g8 rdA ow0)
                        | fail)
                      have IW := AN.out.2
                      have LCR : Hid (([] : List CRow).length ≤ 1000) := hid (by simp)
                      clear e0 e1 q0 q1 b8 o8 bq8 c1 c1a b7 o7 g7 n7 d0 d1 f0 f1 AN PP HI6
                      generalize (w8.setCell ⟨w5.heap.size, 0, none⟩ (.slice A8 r.l.length k8)).setCell ⟨w5.heap.size, 1, none⟩ (.slice none 0 0) = WB at *
                      have HIW := hid IW
                      clear IW
                      have S31 : Hid (∀ wx, Below W3.heap.size W3 wx → wx.cell? ⟨w5.heap.size, 1, none⟩ = some (.slice none 0 0) → (wx.cell? ⟨b, off + j * 4, none⟩ = some (.int .i64 sq) ∧ wx.cell? ⟨b, off + j * 4 + 1, none⟩ = some (.int .i64 tm) ∧ wx.cell? ⟨b, off + j * 4 + 3, none⟩ = some (.string ⟨ln.toArray⟩)) ∧ wx.cell? ⟨w5.heap.size, 1, none⟩ = some (.slice none 0 0)) := hid (fun wx h h1 => by obtain ⟨e0, e1, e2, e3⟩ := KY.out wx h; exact ⟨⟨e0, e1, e3⟩, h1⟩)
                      have IB := HIW.out.below (Below.refl WB.heap.size WB).drew
                      have S0 := S31.out _ IB.bel (held_cell IB.box rfl)
                      refine wp_region_L 21 (fun wx => (wx.cell? ⟨b, off + j * 4, none⟩ = some (.int .i64 sq) ∧ wx.cell? ⟨b, off + j * 4 + 1, none⟩ = some (.int .i64 tm) ∧ wx.cell? ⟨b, off + j * 4 + 3, none⟩ = some (.string ⟨ln.toArray⟩)) ∧ wx.cell? ⟨w5.heap.size, 1, none⟩ = some (.slice none 0 0)) (by kernel_rfl) ?_
                      refine takeL (i := 0) (d := 153) (v := .pointer (some ⟨w5.heap.size, 1, none⟩)) rfl rfl (by kernel_rfl) (by kernel_rfl) (by kernel_rfl) (by kernel_rfl) (by kernel_rfl) (fun _ _ _ h => h) (Or.inl ⟨by rfl, fun wS hSw => by obtain ⟨⟨s0, s1, s2⟩, s3⟩ := hSw; go_simp⟩) S0 ?_
                      try simp only [List.setIfInBounds_toArray, List.set_cons_zero, List.set_cons_succ]
                      refine takeL (i := 1) (d := 154) (v := .slice none 0 0) rfl rfl (by kernel_rfl) (by kernel_rfl) (by kernel_rfl) (by kernel_rfl) (by kernel_rfl) (fun _ _ _ h => h) (Or.inl ⟨by rfl, fun wS hSw => by obtain ⟨⟨s0, s1, s2⟩, s3⟩ := hSw; go_simp⟩) S0 ?_
                      try simp only [List.setIfInBounds_toArray, List.set_cons_zero, List.set_cons_succ]
                      refine takeL (i := 2) (d := 155) (v := .slice (some ⟨b, off, none⟩) Y.length c3) rfl rfl (by kernel_rfl) (by kernel_rfl) (by kernel_rfl) (by kernel_rfl) (by kernel_rfl) (fun _ _ _ h => h) (Or.inl ⟨by rfl, fun wS hSw => by obtain ⟨⟨s0, s1, s2⟩, s3⟩ := hSw; go_simp⟩) S0 ?_
                      try simp only [List.setIfInBounds_toArray, List.set_cons_zero, List.set_cons_succ]
                      refine takeL (i := 3) (d := 156) (v := .int .i64 (j : Int)) rfl rfl (by kernel_rfl) (by kernel_rfl) (by kernel_rfl) (by kernel_rfl) (by kernel_rfl) (fun _ _ _ h => h) (Or.inl ⟨by rfl, fun wS hSw => by obtain ⟨⟨s0, s1, s2⟩, s3⟩ := hSw; go_simp⟩) S0 ?_
                      try simp only [List.setIfInBounds_toArray, List.set_cons_zero, List.set_cons_succ]
                      refine takeL (i := 4) (d := 157) (v := .pointer (some ⟨b, off + j * 4, none⟩)) rfl rfl (by kernel_rfl) (by kernel_rfl) (by kernel_rfl) (by kernel_rfl) (by kernel_rfl) (fun _ _ _ h => h) (Or.inl ⟨by rfl, fun wS hSw => by obtain ⟨⟨s0, s1, s2⟩, s3⟩ := hSw; go_simp⟩) S0 ?_
                      try simp only [List.setIfInBounds_toArray, List.set_cons_zero, List.set_cons_succ]
                      refine takeL (i := 5) (d := 158) (v := .pointer (some ⟨b, off + j * 4, none⟩)) rfl rfl (by kernel_rfl) (by kernel_rfl) (by kernel_rfl) (by kernel_rfl) (by kernel_rfl) (fun _ _ _ h => h) (Or.inl ⟨by rfl, fun wS hSw => by obtain ⟨⟨s0, s1, s2⟩, s3⟩ := hSw; go_simp⟩) S0 ?_
                      try simp only [List.setIfInBounds_toArray, List.set_cons_zero, List.set_cons_succ]
                      refine takeL (i := 6) (d := 159) (v := .int .i64 sq) rfl rfl (by kernel_rfl) (by kernel_rfl) (by kernel_rfl) (by kernel_rfl) (by kernel_rfl) (fun _ _ _ h => h) (Or.inl ⟨by rfl, fun wS hSw => by obtain ⟨⟨s0, s1, s2⟩, s3⟩ := hSw; go_simp⟩) S0 ?_
                      try simp only [List.setIfInBounds_toArray, List.set_cons_zero, List.set_cons_succ]
                      refine takeL (i := 7) (d := 160) (v := .slice (some ⟨b, off, none⟩) Y.length c3) rfl rfl (by kernel_rfl) (by kernel_rfl) (by kernel_rfl) (by kernel_rfl) (by kernel_rfl) (fun _ _ _ h => h) (Or.inl ⟨by rfl, fun wS hSw => by obtain ⟨⟨s0, s1, s2⟩, s3⟩ := hSw; go_simp⟩) S0 ?_
                      try simp only [List.setIfInBounds_toArray, List.set_cons_zero, List.set_cons_succ]
                      refine takeL (i := 8) (d := 161) (v := .int .i64 (j : Int)) rfl rfl (by kernel_rfl) (by kernel_rfl) (by kernel_rfl) (by kernel_rfl) (by kernel_rfl) (fun _ _ _ h => h) (Or.inl ⟨by rfl, fun wS hSw => by obtain ⟨⟨s0, s1, s2⟩, s3⟩ := hSw; go_simp⟩) S0 ?_
                      try simp only [List.setIfInBounds_toArray, List.set_cons_zero, List.set_cons_succ]
                      refine takeL (i := 9) (d := 162) (v := .pointer (some ⟨b, off + j * 4, none⟩)) rfl rfl (by kernel_rfl) (by kernel_rfl) (by kernel_rfl) (by kernel_rfl) (by kernel_rfl) (fun _ _ _ h => h) (Or.inl ⟨by rfl, fun wS hSw => by obtain ⟨⟨s0, s1, s2⟩, s3⟩ := hSw; go_simp⟩) S0 ?_
                      try simp only [List.setIfInBounds_toArray, List.set_cons_zero, List.set_cons_succ]
                      refine takeL (i := 10) (d := 163) (v := .pointer (some ⟨b, off + j * 4 + 1, none⟩)) rfl rfl (by kernel_rfl) (by kernel_rfl) (by kernel_rfl) (by kernel_rfl) (by kernel_rfl) (fun _ _ _ h => h) (Or.inl ⟨by rfl, fun wS hSw => by obtain ⟨⟨s0, s1, s2⟩, s3⟩ := hSw; go_simp⟩) S0 ?_
                      try simp only [List.setIfInBounds_toArray, List.set_cons_zero, List.set_cons_succ]
                      refine takeL (i := 11) (d := 164) (v := .int .i64 tm) rfl rfl (by kernel_rfl) (by kernel_rfl) (by kernel_rfl) (by kernel_rfl) (by kernel_rfl) (fun _ _ _ h => h) (Or.inl ⟨by rfl, fun wS hSw => by obtain ⟨⟨s0, s1, s2⟩, s3⟩ := hSw; go_simp⟩) S0 ?_
                      try simp only [List.setIfInBounds_toArray, List.set_cons_zero, List.set_cons_succ]
                      refine takeL (i := 12) (d := 165) (v := .slice (some ⟨b, off, none⟩) Y.length c3) rfl rfl (by kernel_rfl) (by kernel_rfl) (by kernel_rfl) (by kernel_rfl) (by kernel_rfl) (fun _ _ _ h => h) (Or.inl ⟨by rfl, fun wS hSw => by obtain ⟨⟨s0, s1, s2⟩, s3⟩ := hSw; go_simp⟩) S0 ?_
                      try simp only [List.setIfInBounds_toArray, List.set_cons_zero, List.set_cons_succ]
                      refine takeL (i := 13) (d := 166) (v := .int .i64 (j : Int)) rfl rfl (by kernel_rfl) (by kernel_rfl) (by kernel_rfl) (by kernel_rfl) (by kernel_rfl) (fun _ _ _ h => h) (Or.inl ⟨by rfl, fun wS hSw => by obtain ⟨⟨s0, s1, s2⟩, s3⟩ := hSw; go_simp⟩) S0 ?_
                      try simp only [List.setIfInBounds_toArray, List.set_cons_zero, List.set_cons_succ]
                      refine takeL (i := 14) (d := 167) (v := .pointer (some ⟨b, off + j * 4, none⟩)) rfl rfl (by kernel_rfl) (by kernel_rfl) (by kernel_rfl) (by kernel_rfl) (by kernel_rfl) (fun _ _ _ h => h) (Or.inl ⟨by rfl, fun wS hSw => by obtain ⟨⟨s0, s1, s2⟩, s3⟩ := hSw; go_simp⟩) S0 ?_
                      try simp only [List.setIfInBounds_toArray, List.set_cons_zero, List.set_cons_succ]
                      refine takeL (i := 15) (d := 168) (v := .pointer (some ⟨b, off + j * 4 + 3, none⟩)) rfl rfl (by kernel_rfl) (by kernel_rfl) (by kernel_rfl) (by kernel_rfl) (by kernel_rfl) (fun _ _ _ h => h) (Or.inl ⟨by rfl, fun wS hSw => by obtain ⟨⟨s0, s1, s2⟩, s3⟩ := hSw; go_simp⟩) S0 ?_
                      try simp only [List.setIfInBounds_toArray, List.set_cons_zero, List.set_cons_succ]
                      refine takeL (i := 16) (d := 169) (v := .string ⟨ln.toArray⟩) rfl rfl (by kernel_rfl) (by kernel_rfl) (by kernel_rfl) (by kernel_rfl) (by kernel_rfl) (fun _ _ _ h => h) (Or.inl ⟨by rfl, fun wS hSw => by obtain ⟨⟨s0, s1, s2⟩, s3⟩ := hSw; go_simp⟩) S0 ?_
                      try simp only [List.setIfInBounds_toArray, List.set_cons_zero, List.set_cons_succ]
                      refine takeL (i := 17) (d := 170) (v := .agg #[.int .i64 sq, .int .i64 tm, .string ⟨ln.toArray⟩]) rfl rfl (by kernel_rfl) (by kernel_rfl) (by kernel_rfl) (by kernel_rfl) (by kernel_rfl) (fun _ _ _ h => h) (Or.inl ⟨by rfl, fun wS hSw => by obtain ⟨⟨s0, s1, s2⟩, s3⟩ := hSw; go_simp⟩) S0 ?_
                      try simp only [List.setIfInBounds_toArray, List.set_cons_zero, List.set_cons_succ]
                      refine readyL (rs := [18]) (by kernel_rfl) (by simp) ?_
                      refine AllReadyL.cons rfl (fun K hK => ?_) AllReadyL.nil
                      rw [if_pos (by rfl)]
                      go_simp
                      have b1 : Below WB.drew.heap.size WB.drew (WB.drew.alloc (.cells #[.int .i64 sq, .int .i64 tm, .string ⟨ln.toArray⟩] 46)) := (Below.refl _ _).alloc (Nat.le_refl _) _
                      have IC := IB.below b1
                      refine hK.out _ _ (S31.out _ IC.bel (held_cell IC.box rfl)) ?_
                      clear hK K
                      try simp only [Act.put, List.setIfInBounds_toArray, List.set_cons_zero, List.set_cons_succ]
                      refine readyL (rs := [19]) (by kernel_rfl) (by simp) ?_
                      refine AllReadyL.cons rfl (fun K hK => ?_) AllReadyL.nil
                      refine Kd.step_app1A (K := KRr) rfl (.tmp 154) (.tmp 171) 33 rfl Tryd.underlying33 infoRr rfl W3.heap.size (.slice none 0 0) ([] : List CRow) (⟨sq, tm, ln⟩ : CRow) (by simp [Act.eval]) IC.row WB.heap.size (heap_alloc_new WB.drew _) (by simp [Act.eval]; try rfl) (by have := LCR.out; first | (simp [maxLen]; done) | (simp [maxLen]; omega)) (by have := LCR.out; omega) IC.bel.size ?_
                      intro g8 cap8 w8 p8 gg8 at8
                      obtain ⟨bx8, IN8, bb8⟩ := IC.more p8 gg8 at8
                      have HIN8 := hid IN8
                      refine hK.out _ _ (S31.out _ bb8 (held_cell bx8 rfl)) ?_
                      clear hK K
                      try simp only [Act.put, List.setIfInBounds_toArray, List.set_cons_zero, List.set_cons_succ]
                      have c8 : w8.cell? ⟨w5.heap.size, 1, none⟩ = some (.slice none 0 0) := held_cell bx8 rfl
                      have f8 : w8.frozen? ⟨w5.heap.size, 1, none⟩ = false := held_frozen bx8
                      refine takeL (i := 20) (d := 173) (v := .pointer (some ⟨w5.heap.size, 1, none⟩)) rfl rfl (by kernel_rfl) (by kernel_rfl) (by kernel_rfl) (by kernel_rfl) (by kernel_rfl) (fun _ _ _ h => h) (Or.inl ⟨by rfl, fun wS hSw => by obtain ⟨⟨s0, s1, s2⟩, s3⟩ := hSw; go_simp⟩) (S31.out _ bb8 (held_cell bx8 rfl)) ?_
                      try simp only [List.setIfInBounds_toArray, List.set_cons_zero, List.set_cons_succ]
                      refine readyL (rs := [21]) (by kernel_rfl) (by simp) ?_
                      refine AllReadyL.last rfl (fun K hK => ?_)
                      rw [if_pos (by rfl)]
                      go_simp
                      refine hK.out _ _ ?_
                      clear hK K
                      refine doneL (by kernel_rfl) ?_
                      go_wp2_with fail
                      go_roundw
                      case rel => exact ⟨j + 1, _, _, [(⟨sq, tm, ln⟩ : CRow)], _, _, some ⟨g8, 0, none⟩, cap8, by go_num, by have := HJL.out; omega, hid (by have h9 := HIN8.out; simpa using h9), HXN⟩
                      case measure => have := HJL.out; simp [intOf]; omega
                    · have g1 : ((cr.length : Int) == 1000) = false := by simp; omega
                      have HXN : Hid (m'.map CV.bare = m.map CV.bare ++ ex ∧ PcInv r.l (ofS r.l (S.take (j + 1))) ex (cr ++ [(⟨sq, tm, ln⟩ : CRow)])) := hid (by
                        rw [HT2.out]
                        exact ⟨HX.out.1, HX.out.2.more _ (by omega)⟩)
                      have LCR : Hid (cr.length ≤ 1000) := hid hle.2
                      clear hbox hfull hle
                      go_wp2_with fail
                      have S31 : Hid (∀ wx, Below W3.heap.size W3 wx → wx.cell? ⟨w5.heap.size, 1, none⟩ = some (.slice A9 cr.length k9) → (wx.cell? ⟨b, off + j * 4, none⟩ = some (.int .i64 sq) ∧ wx.cell? ⟨b, off + j * 4 + 1, none⟩ = some (.int .i64 tm) ∧ wx.cell? ⟨b, off + j * 4 + 3, none⟩ = some (.string ⟨ln.toArray⟩)) ∧ wx.cell? ⟨w5.heap.size, 1, none⟩ = some (.slice A9 cr.length k9)) := hid (fun wx h h1 => by obtain ⟨e0, e1, e2, e3⟩ := KY.out wx h; exact ⟨⟨e0, e1, e3⟩, h1⟩)
                      have IB := HI6.out.below (Below.refl w6.heap.size w6).drew
                      have S0 := S31.out _ IB.bel (held_cell IB.box rfl)
                      refine wp_region_L 21 (fun wx => (wx.cell? ⟨b, off + j * 4, none⟩ = some (.int .i64 sq) ∧ wx.cell? ⟨b, off + j * 4 + 1, none⟩ = some (.int .i64 tm) ∧ wx.cell? ⟨b, off + j * 4 + 3, none⟩ = some (.string ⟨ln.toArray⟩)) ∧ wx.cell? ⟨w5.heap.size, 1, none⟩ = some (.slice A9 cr.length k9)) (by kernel_rfl) ?_
                      refine takeL (i := 0) (d := 153) (v := .pointer (some ⟨w5.heap.size, 1, none⟩)) rfl rfl (by kernel_rfl) (by kernel_rfl) (by kernel_rfl) (by kernel_rfl) (by kernel_rfl) (fun _ _ _ h => h) (Or.inl ⟨by rfl, fun wS hSw => by obtain ⟨⟨s0, s1, s2⟩, s3⟩ := hSw; go_simp⟩) S0 ?_
                      try simp only [List.setIfInBounds_toArray, List.set_cons_zero, List.set_cons_succ]
                      refine takeL (i := 1) (d := 154) (v := .slice A9 cr.length k9) rfl rfl (by kernel_rfl) (by kernel_rfl) (by kernel_rfl) (by kernel_rfl) (by kernel_rfl) (fun _ _ _ h => h) (Or.inl ⟨by rfl, fun wS hSw => by obtain ⟨⟨s0, s1, s2⟩, s3⟩ := hSw; go_simp⟩) S0 ?_
                      try simp only [List.setIfInBounds_toArray, List.set_cons_zero, List.set_cons_succ]
                      refine takeL (i := 2) (d := 155) (v := .slice (some ⟨b, off, none⟩) Y.length c3) rfl rfl (by kernel_rfl) (by kernel_rfl) (by kernel_rfl) (by kernel_rfl) (by kernel_rfl) (fun _ _ _ h => h) (Or.inl ⟨by rfl, fun wS hSw => by obtain ⟨⟨s0, s1, s2⟩, s3⟩ := hSw; go_simp⟩) S0 ?_
                      try simp only [List.setIfInBounds_toArray, List.set_cons_zero, List.set_cons_succ]
                      refine takeL (i := 3) (d := 156) (v := .int .i64 (j : Int)) rfl rfl (by kernel_rfl) (by kernel_rfl) (by kernel_rfl) (by kernel_rfl) (by kernel_rfl) (fun _ _ _ h => h) (Or.inl ⟨by rfl, fun wS hSw => by obtain ⟨⟨s0, s1, s2⟩, s3⟩ := hSw; go_simp⟩) S0 ?_
                      try simp only [List.setIfInBounds_toArray, List.set_cons_zero, List.set_cons_succ]
                      refine takeL (i := 4) (d := 157) (v := .pointer (some ⟨b, off + j * 4, none⟩)) rfl rfl (by kernel_rfl) (by kernel_rfl) (by kernel_rfl) (by kernel_rfl) (by kernel_rfl) (fun _ _ _ h => h) (Or.inl ⟨by rfl, fun wS hSw => by obtain ⟨⟨s0, s1, s2⟩, s3⟩ := hSw; go_simp⟩) S0 ?_
                      try simp only [List.setIfInBounds_toArray, List.set_cons_zero, List.set_cons_succ]
                      refine takeL (i := 5) (d := 158) (v := .pointer (some ⟨b, off + j * 4, none⟩)) rfl rfl (by kernel_rfl) (by kernel_rfl) (by kernel_rfl) (by kernel_rfl) (by kernel_rfl) (fun _ _ _ h => h) (Or.inl ⟨by rfl, fun wS hSw => by obtain ⟨⟨s0, s1, s2⟩, s3⟩ := hSw; go_simp⟩) S0 ?_
                      try simp only [List.setIfInBounds_toArray, List.set_cons_zero, List.set_cons_succ]
                      refine takeL (i := 6) (d := 159) (v := .int .i64 sq) rfl rfl (by kernel_rfl) (by kernel_rfl) (by kernel_rfl) (by kernel_rfl) (by kernel_rfl) (fun _ _ _ h => h) (Or.inl ⟨by rfl, fun wS hSw => by obtain ⟨⟨s0, s1, s2⟩, s3⟩ := hSw; go_simp⟩) S0 ?_
                      try simp only [List.setIfInBounds_toArray, List.set_cons_zero, List.set_cons_succ]
                      refine takeL (i := 7) (d := 160) (v := .slice (some ⟨b, off, none⟩) Y.length c3) rfl rfl (by kernel_rfl) (by kernel_rfl) (by kernel_rfl) (by kernel_rfl) (by kernel_rfl) (fun _ _ _ h => h) (Or.inl ⟨by rfl, fun wS hSw => by obtain ⟨⟨s0, s1, s2⟩, s3⟩ := hSw; go_simp⟩) S0 ?_
                      try simp only [List.setIfInBounds_toArray, List.set_cons_zero, List.set_cons_succ]
                      refine takeL (i := 8) (d := 161) (v := .int .i64 (j : Int)) rfl rfl (by kernel_rfl) (by kernel_rfl) (by kernel_rfl) (by kernel_rfl) (by kernel_rfl) (fun _ _ _ h => h) (Or.inl ⟨by rfl, fun wS hSw => by obtain ⟨⟨s0, s1, s2⟩, s3⟩ := hSw; go_simp⟩) S0 ?_
                      try simp only [List.setIfInBounds_toArray, List.set_cons_zero, List.set_cons_succ]
                      refine takeL (i := 9) (d := 162) (v := .pointer (some ⟨b, off + j * 4, none⟩)) rfl rfl (by kernel_rfl) (by kernel_rfl) (by kernel_rfl) (by kernel_rfl) (by kernel_rfl) (fun _ _ _ h => h) (Or.inl ⟨by rfl, fun wS hSw => by obtain ⟨⟨s0, s1, s2⟩, s3⟩ := hSw; go_simp⟩) S0 ?_
                      try simp only [List.setIfInBounds_toArray, List.set_cons_zero, List.set_cons_succ]
                      refine takeL (i := 10) (d := 163) (v := .pointer (some ⟨b, off + j * 4 + 1, none⟩)) rfl rfl (by kernel_rfl) (by kernel_rfl) (by kernel_rfl) (by kernel_rfl) (by kernel_rfl) (fun _ _ _ h => h) (Or.inl ⟨by rfl, fun wS hSw => by obtain ⟨⟨s0, s1, s2⟩, s3⟩ := hSw; go_simp⟩) S0 ?_
                      try simp only [List.setIfInBounds_toArray, List.set_cons_zero, List.set_cons_succ]
                      refine takeL (i := 11) (d := 164) (v := .int .i64 tm) rfl rfl (by kernel_rfl) (by kernel_rfl) (by kernel_rfl) (by kernel_rfl) (by kernel_rfl) (fun _ _ _ h => h) (Or.inl ⟨by rfl, fun wS hSw => by obtain ⟨⟨s0, s1, s2⟩, s3⟩ := hSw; go_simp⟩) S0 ?_
                      try simp only [List.setIfInBounds_toArray, List.set_cons_zero, List.set_cons_succ]
                      refine takeL (i := 12) (d := 165) (v := .slice (some ⟨b, off, none⟩) Y.length c3) rfl rfl (by kernel_rfl) (by kernel_rfl) (by kernel_rfl) (by kernel_rfl) (by kernel_rfl) (fun _ _ _ h => h) (Or.inl ⟨by rfl, fun wS hSw => by obtain ⟨⟨s0, s1, s2⟩, s3⟩ := hSw; go_simp⟩) S0 ?_
                      try simp only [List.setIfInBounds_toArray, List.set_cons_zero, List.set_cons_succ]
                      refine takeL (i := 13) (d := 166) (v := .int .i64 (j : Int)) rfl rfl (by kernel_rfl) (by kernel_rfl) (by kernel_rfl) (by kernel_rfl) (by kernel_rfl) (fun _ _ _ h => h) (Or.inl ⟨by rfl, fun wS hSw => by obtain ⟨⟨s0, s1, s2⟩, s3⟩ := hSw; go_simp⟩) S0 ?_
                      try simp only [List.setIfInBounds_toArray, List.set_cons_zero, List.set_cons_succ]
                      refine takeL (i := 14) (d := 167) (v := .pointer (some ⟨b, off + j * 4, none⟩)) rfl rfl (by kernel_rfl) (by kernel_rfl) (by kernel_rfl) (by kernel_rfl) (by kernel_rfl) (fun _ _ _ h => h) (Or.inl ⟨by rfl, fun wS hSw => by obtain ⟨⟨s0, s1, s2⟩, s3⟩ := hSw; go_simp⟩) S0 ?_
                      try simp only [List.setIfInBounds_toArray, List.set_cons_zero, List.set_cons_succ]
                      refine takeL (i := 15) (d := 168) (v := .pointer (some ⟨b, off + j * 4 + 3, none⟩)) rfl rfl (by kernel_rfl) (by kernel_rfl) (by kernel_rfl) (by kernel_rfl) (by kernel_rfl) (fun _ _ _ h => h) (Or.inl ⟨by rfl, fun wS hSw => by obtain ⟨⟨s0, s1, s2⟩, s3⟩ := hSw; go_simp⟩) S0 ?_
                      try simp only [List.setIfInBounds_toArray, List.set_cons_zero, List.set_cons_succ]
                      refine takeL (i := 16) (d := 169) (v := .string ⟨ln.toArray⟩) rfl rfl (by kernel_rfl) (by kernel_rfl) (by kernel_rfl) (by kernel_rfl) (by kernel_rfl) (fun _ _ _ h => h) (Or.inl ⟨by rfl, fun wS hSw => by obtain ⟨⟨s0, s1, s2⟩, s3⟩ := hSw; go_simp⟩) S0 ?_
                      try simp only [List.setIfInBounds_toArray, List.set_cons_zero, List.set_cons_succ]
                      refine takeL (i := 17) (d := 170) (v := .agg #[.int .i64 sq, .int .i64 tm, .string ⟨ln.toArray⟩]) rfl rfl (by kernel_rfl) (by kernel_rfl) (by kernel_rfl) (by kernel_rfl) (by kernel_rfl) (fun _ _ _ h => h) (Or.inl ⟨by rfl, fun wS hSw => by obtain ⟨⟨s0, s1, s2⟩, s3⟩ := hSw; go_simp⟩) S0 ?_
                      try simp only [List.setIfInBounds_toArray, List.set_cons_zero, List.set_cons_succ]
                      refine readyL (rs := [18]) (by kernel_rfl) (by simp) ?_
                      refine AllReadyL.cons rfl (fun K hK => ?_) AllReadyL.nil
                      rw [if_pos (by rfl)]
                      go_simp
                      have b1 : Below w6.drew.heap.size w6.drew (w6.drew.alloc (.cells #[.int .i64 sq, .int .i64 tm, .string ⟨ln.toArray⟩] 46)) := (Below.refl _ _).alloc (Nat.le_refl _) _
                      have IC := IB.below b1
                      refine hK.out _ _ (S31.out _ IC.bel (held_cell IC.box rfl)) ?_
                      clear hK K
                      try simp only [Act.put, List.setIfInBounds_toArray, List.set_cons_zero, List.set_cons_succ]
                      refine readyL (rs := [19]) (by kernel_rfl) (by simp) ?_
                      refine AllReadyL.cons rfl (fun K hK => ?_) AllReadyL.nil
                      refine Kd.step_app1A (K := KRr) rfl (.tmp 154) (.tmp 171) 33 rfl Tryd.underlying33 infoRr rfl W3.heap.size (.slice A9 cr.length k9) cr (⟨sq, tm, ln⟩ : CRow) (by simp [Act.eval]) IC.row w6.heap.size (heap_alloc_new w6.drew _) (by simp [Act.eval]; try rfl) (by have := LCR.out; first | (simp [maxLen]; done) | (simp [maxLen]; omega)) (by have := LCR.out; omega) IC.bel.size ?_
                      intro g8 cap8 w8 p8 gg8 at8
                      obtain ⟨bx8, IN8, bb8⟩ := IC.more p8 gg8 at8
                      have HIN8 := hid IN8
                      refine hK.out _ _ (S31.out _ bb8 (held_cell bx8 rfl)) ?_
                      clear hK K
                      try simp only [Act.put, List.setIfInBounds_toArray, List.set_cons_zero, List.set_cons_succ]
                      have c8 : w8.cell? ⟨w5.heap.size, 1, none⟩ = some (.slice A9 cr.length k9) := held_cell bx8 rfl
                      have f8 : w8.frozen? ⟨w5.heap.size, 1, none⟩ = false := held_frozen bx8
                      refine takeL (i := 20) (d := 173) (v := .pointer (some ⟨w5.heap.size, 1, none⟩)) rfl rfl (by kernel_rfl) (by kernel_rfl) (by kernel_rfl) (by kernel_rfl) (by kernel_rfl) (fun _ _ _ h => h) (Or.inl ⟨by rfl, fun wS hSw => by obtain ⟨⟨s0, s1, s2⟩, s3⟩ := hSw; go_simp⟩) (S31.out _ bb8 (held_cell bx8 rfl)) ?_
                      try simp only [List.setIfInBounds_toArray, List.set_cons_zero, List.set_cons_succ]
                      refine readyL (rs := [21]) (by kernel_rfl) (by simp) ?_
                      refine AllReadyL.last rfl (fun K hK => ?_)
                      rw [if_pos (by rfl)]
                      go_simp
                      refine hK.out _ _ ?_
                      clear hK K
                      refine doneL (by kernel_rfl) ?_
                      go_wp2_with fail
                      go_roundw
                      case rel => exact ⟨j + 1, _, _, cr ++ [(⟨sq, tm, ln⟩ : CRow)], _, _, some ⟨g8, 0, none⟩, cap8, by go_num, by have := HJL.out; omega, hid (by have h9 := HIN8.out; rw [show (cr ++ [(⟨sq, tm, ln⟩ : CRow)]).length = cr.length + 1 by simp] at h9 ⊢; exact h9), HXN⟩
                      case measure => have := HJL.out; simp [intOf]; omega
                  · have hd : (rr != 0) = true := by simp [hr]
                    have hlb : ¬ lb = r.l := fun e => hr (HCE.out.2 e)
                    have HXN : Hid (m'.map CV.bare = m.map CV.bare ++ ex ∧ PcInv r.l (ofS r.l (S.take (j + 1))) ex cr) := hid (by
                      rw [HTS.out, if_neg hlb]
                      exact HX.out)
                    clear hr hlb HTS HCE
                    go_wp2_with fail
                    go_region_held3 (fun wx => Below wr.heap.size wr wx ∧ wx.cell? ⟨b, off + j * 4 + 2, none⟩ = some (.slice Ax lb.length cx) ∧ wx.cell? ⟨gL, oL + s, none⟩ = some (.slice r.A r.l.length r.c)) (exact hk9)
                      (first | (go_at_call 30; refine (hC _ (b3w.trans (hk9.1.mono hb3z))).mono ?_; rintro e w6 ⟨rfl, b6⟩; have hk9 := MK.out _ (hk9.1.trans (b6.mono hk9.1.size))))
                    go_wp2_with fail
                    go_roundw
                    case rel => exact ⟨j + 1, m', ex, cr, A5, k5, A9, k9, by go_num, by have := HJL.out; omega, hid (HI.out.below hk9.1), HXN⟩
                    case measure => have := HJL.out; simp [intOf]; omega
                · have HD : Hid (PcInv r.l (ofS r.l S) ex cr) := hid (by
                    have := HX.out.2
                    rwa [List.take_of_length_le (by have := HSn.out.2.2; omega)] at this)
                  have hml : m'.length + 1 ≤ S.length := by
                    have h1 := HD.out.len (HD.out.some HNE.out)
                    have h2 := congrArg List.length HX.out.1
                    rw [List.length_map, List.length_append, List.length_map] at h2
                    have := HBD.out
                    omega
                  have hSb : S.length * 56 ≤ 140737488351232 := by have := HSn.out.2; omega
                  have hnj : ¬ (j : Int) < (Y.length : Int) := by omega
                  have hbox := HI.out.box
                  have d0 : wr.cell? ⟨w5.heap.size, 0, none⟩ = some (.slice A5 r.l.length k5) := held_cell hbox rfl
                  have d1 : wr.cell? ⟨w5.heap.size, 1, none⟩ = some (.slice A9 cr.length k9) := held_cell hbox rfl
                  have FB : Hid (∀ (m2 : List CV), m2.map CV.bare = m'.map CV.bare ++ [(r.l, cr)] → m2.map CV.bare = outS S ((L.take (s + 1)).map (·.l))) := hid (fun m2 h2 => by
                    rw [h2, HX.out.1, HC.out, HSn1.out, outS_snoc, List.append_assoc, HD.out.done HNE.out])
                  have hB3 := HI.out.bel.size
                  clear hbox hjl hj
                  go_wp2_with (first
                    | (at_builtin; refine Kd.wp_app1A (K := KC 35) rfl (.tmp 174) (.tmp 176) 27 rfl Tryd.underlying27 infoCr rfl W3.heap.size u9 m' (⟨r.l, A5, k5, cr, A9, k9⟩ : CV) rfl HI.out.out.1 rfl rfl rfl (by unfold maxLen; omega) (by omega) hB3 ?_; intro v7 w7 o7 b7 g7 n7; have PU := hid (HI.out.push o7 g7 n7))
                    | fail)
                  go_roundw
                  case rel => exact ⟨s + 1, _, by go_num, by have := HLT.out; omega, hid PU.out.1, hid (FB.out _ (by rw [List.map_append]; rfl)), hid PU.out.2.1⟩
                  case measure => have := HLT.out; simp [intOf]; omega
            · have FIN : Hid (OwC 35 KRr wr w.heap.size u9 m ∧ GrR l (m.map CV.bare) ∧ Below w.heap.size w wr) := hid (by
                have hse : s = L.length := by omega
                have hc := HC.out
                rw [hse, List.take_of_length_le (Nat.le_refl _)] at hc
                have b3 := HBW2.out.trans (HBW3.out.mono HBW2.out.size)
                refine ⟨HM.out.mono b3.size, ⟨S, L.map (·.l), HST.out.1, HST.out.2.1, HSY.out.1.1, fun z => ?_, hc⟩, b3.trans (HW.out.mono b3.size)⟩
                rw [HSY.out.1.2 z, ← HST.out.2.2]
                constructor
                · rintro ⟨y, hy, e⟩; exact ⟨y.1, List.mem_map.2 ⟨y, hy, rfl⟩, e⟩
                · rintro ⟨x, hx, e⟩
                  obtain ⟨y, hy, rfl⟩ := List.mem_map.1 hx
                  exact ⟨y, hy, e⟩)
              have hnl : ¬ (s : Int) < (L.length : Int) := by omega
              clear hsl hs HM HC
              go_wp2_with fail
              go_ret
              exact ⟨_, m, rfl, FIN.out.1, FIN.out.2.1, FIN.out.2.2⟩
end Go.Proofs.YtaoeabnpmpimgaaDoor
end
section
namespace Go.Icz
open Go.RowKit
theorem gd_mem (l : List Ent) : ∀ x ∈ gd l, x ∈ l := by
  suffices h : ∀ (l acc : List Ent), ∀ x ∈ l.foldl gdStepE acc, x ∈ acc ∨ x ∈ l by
    intro x hx
    rcases h l [] x hx with h1 | h1
    · cases h1
    · exact h1
  intro l
  induction l with
  | nil => intro acc x hx; exact .inl hx
  | cons y t ih =>
    intro acc x hx
    rw [List.foldl_cons] at hx
    rcases ih _ x hx with h1 | h1
    · unfold gdStepE at h1
      split at h1
      · rcases List.mem_append.1 h1 with h3 | h3
        · exact .inl h3
        · obtain rfl := List.mem_singleton.1 h3
          exact .inr (by simp)
      · exact .inl h1
    · exact .inr (List.mem_cons_of_mem _ h1)
theorem gd_len (l : List Ent) : (gd l).length ≤ l.length := by
  suffices h : ∀ (l acc : List Ent), (l.foldl gdStepE acc).length ≤ acc.length + l.length by have := h l []; simpa [gd] using this
  intro l
  induction l with
  | nil => intro acc; simp
  | cons x t ih =>
    intro acc
    rw [List.foldl_cons]
    have := ih (gdStepE acc x)
    have h2 : (gdStepE acc x).length ≤ acc.length + 1 := by
      unfold gdStepE
      split
      · simp
      · omega
    simp only [List.length_cons]
    omega
theorem GrR.sz {l : List Ent} {C : List (List Lab × List CRow)} (h : GrR l C) : C.length ≤ l.length ∧ ∀ p ∈ C, p.2.length ≤ 1000 ∧ ∃ x ∈ l, p.1 = x.labs := by
  obtain ⟨S, sets, h1, h2, h3, h4, rfl⟩ := h
  refine ⟨Nat.le_trans (outS_len S sets h3) (by rw [h2]; exact gd_len l), fun p hp => ?_⟩
  unfold outS at hp
  obtain ⟨s, hs, hp⟩ := List.mem_flatMap.1 hp
  unfold cutC at hp
  obtain ⟨q, hq, rfl⟩ := List.mem_map.1 hp
  obtain ⟨x, hx, e⟩ := (h4 s).1 hs
  refine ⟨?_, x, gd_mem l x ((h1.mem ltT_ord).1 hx), e.symm⟩
  have := posL_mem2 hq
  unfold pcAt
  rw [List.length_take]
  omega
end Go.Icz
namespace Go.Proofs.YtaoeabnpmpimgaaDoor
open Go.RowKit Go.Icz
set_option maxHeartbeats 2000000 in
set_option maxRecDepth 100000 in
theorem groups_walk (v : Value) (l : List Ent) (w : World) (hR : RdE w v l) (hT : Tabs w) (hz : ∀ x ∈ l, entZ x) (hwf : ∀ x ∈ l, wfI x.seq) (hlen : l.length * 56 ≤ 140737488351232) :
    Calls Tryd.prog 3 #[v] w fun e w' => e = .returned (.bool true) ∧ Below w.heap.size w w' := by
  have hA := EAll_is v l w hR hz hlen
  have hG := fun v1 w1 (h1 : RdE w1 v1 l) (hb : Below w.heap.size w w1) => Group_is v1 l w1 h1 (hT.below hb) hz hwf hlen
  have hF := fun w1 (hb : Below w.heap.size w w1) => R4Group_is v l w1 (hR.below hb) hz hwf hlen
  have hK := fun w1 (hb : Below w.heap.size w w1) => knows4_is w1 (hT.below hb)
  have hS := fun v1 w1 (h1 : RdE w1 v1 l) (hb : Below w.heap.size w w1) => ESames_refl v1 v l w1 h1 (hR.below hb) (fun x hx => by have := (hz x hx).1; omega) (by omega)
  have hC := fun u m u2 m2 w1 (h1 : RdC 39 KRw w1 u m) (h2 : RdC 35 KRr w1 u2 m2) (g1 : GrR l (m.map CV.bare)) (g2 : GrR l (m2.map CV.bare)) => CSames_refl u u2 m m2 w1 h1 h2 (g1.one g2) (fun x hx => by
    have h3 := g1.sz.2 x.bare (List.mem_map.2 ⟨x, hx, rfl⟩)
    obtain ⟨h4, y, hy, e⟩ := h3
    have e2 : x.labs = y.labs := e
    have h5 : x.rows.length ≤ 1000 := h4
    have := (hz y hy).1
    rw [e2]
    exact ⟨by omega, by omega⟩) (by have := g1.sz.1; rw [List.length_map] at this; omega)
  unfold AllOut at hA
  unfold GrOut at hG
  unfold RgOut at hF
  clear hR hT hz hwf hlen
  go_enter Tryd.func3, Tryd.ntmps3
  go_wp2_with (first
    | (go_at_call 5; refine hA.mono ?_; rintro e w1 ⟨v1, rfl, r1, b1⟩; clear hA)
    | (go_at_call 7; refine (hG _ _ r1 b1).mono ?_; rintro e w2 ⟨u2, m2, rfl, o2, g2, b2⟩; have bb2 := b1.trans (b2.mono b1.size); have r1b := r1.below b2; clear hG)
    | (go_at_call 8; refine (hF _ bb2).mono ?_; rintro e w3 ⟨u3, m3, rfl, o3, g3, b3⟩; have bb3 := bb2.trans (b3.mono bb2.size); have r1c := r1b.below b3; have o2c := (o2.below b3).rd; have o3c := o3.rd; clear hF)
    | (go_at_call 6; refine (hC _ _ _ _ _ o2c o3c g2.toR g3).mono ?_; rintro e w4 ⟨rfl, b4⟩; have bb4 := bb3.trans (b4.mono bb3.size); have r1d := r1c.below b4; clear hC)
    | (go_at_call 9; refine (hS _ _ r1d bb4).mono ?_; rintro e w5 ⟨rfl, b5⟩; have bb5 := bb4.trans (b5.mono bb4.size); clear hS)
    | (go_at_call 10; refine (hK _ bb5).mono ?_; rintro e w6 ⟨rfl, b6⟩; have bb6 := bb5.trans (b6.mono bb5.size); clear hK)
    | fail)
  go_ret
  exact ⟨rfl, bb6⟩
end Go.Proofs.YtaoeabnpmpimgaaDoor
end
