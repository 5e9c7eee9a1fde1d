/-
  What the reference's Read of labels answers, of any bytes: what readS says. Conditions: the slice reads as bytes.
-/
import Derived.Test.YthabkfmcbihbfaaDoorLRead
namespace Go.Icz
open Go.RowKit
theorem grown_new {w w4 : World} {cs : Array Value} {t : TypeId} {g : Nat} (hg : (w.alloc (.cells cs t)).grownBy w4 (some g)) (hne : g < w.heap.size) : w4.heap[w.heap.size]? = some (.cells cs t (0, 0)) :=
  (hg.block _ (by simp) (fun e => by cases e; omega)).trans (heap_alloc_new w (.cells cs t))
theorem OwnL.far {w w' : World} {B b : Nat} {v : Value} {l : List Lab} (h : OwnL w B v l) (hg : w.grownBy w' (some b)) (hne : ∀ k, v.ownBlock = some k → k ≠ b) : OwnL w' B v l := by
  refine World.ownsRow.kept h hg ?_
  cases hv : v.ownBlock with
  | none => exact .inl rfl
  | some k => exact .inr (fun e => hne k hv (by injection e))
theorem below_of_drewN {w w' : World} {n : Nat} (h : Below (w.drewN n).heap.size (w.drewN n) w') : Below w.heap.size w w' := ⟨h.os, h.tape, h.output, h.size, h.block⟩
theorem below_dn {B : Nat} {w w' : World} (n : Nat) (h : Below B w w') : Below B w (w'.drewN n) := ⟨h.os, h.tape, h.output, h.size, h.block⟩
def fromS (l : List Nat) (er : Nat) : List Lab × List Nat × Nat := labsD (numD l er).2.1 (numD l er).2.2 (min (numD l er).1 17)
end Go.Icz
namespace Go.Proofs.YthabkfmcbihbfaaDoor
open Go.RowKit Go.Icz
theorem RText_bt (B g er a : Nat) (l : List Nat) (w : World) (hd : RDec w B g l a er) (hl : ∀ c ∈ l, c < 256) (hlen : l.length ≤ 4611686018427387904) :
    Calls Tryd.prog 33 #[.pointer (some ⟨g, 0, none⟩)] w (RTook w B g (.string ⟨(bt (txtD (l.drop a) er).1).toArray⟩) l (txtR l a er).2.1 (txtR l a er).2.2) := by
  rw [txtR_D]
  exact RText_dec B g er a l w hd hl hlen
theorem rd_set1 (w : World) (b : Nat) (u : Value) (x : Lab) : RdL ((w.setCell ⟨b, 1, none⟩ u).alloc (.cells #[.string ⟨x.1.toArray⟩, .string ⟨x.2.toArray⟩] 87)) (.slice (some ⟨w.heap.size, 0, none⟩) 1 1) [x] := by
  have h := (ownL1 (w.setCell ⟨b, 1, none⟩ u) x (Nat.le_refl _)).rd
  have e : (w.setCell ⟨b, 1, none⟩ u).heap.size = w.heap.size := by simp [World.setCell]
  rw [e] at h
  exact h
def FromOut (B g B0 : Nat) (l : List Nat) (w : World) (st : List Lab × List Nat × Nat) (e : Ending) (w' : World) : Prop :=
  ∃ u a', e = .returned u ∧ OwnL w' B u st.1 ∧ RDec w' B g l a' st.2.2 ∧ l.drop a' = st.2.1 ∧ Below B0 w w'
set_option maxRecDepth 100000 in
set_option maxHeartbeats 1000000 in
theorem From_is (B g a er B0 : Nat) (l : List Nat) (w : World) (hd : RDec w B g l a er) (hB : B ≤ w.heap.size) (h0 : B0 ≤ g) (hl : ∀ c ∈ l, c < 256) (hlen : l.length ≤ 140737488355328) :
    Calls Tryd.prog 58 #[.pointer (some ⟨g, 0, none⟩)] w (FromOut B g B0 l w (fromS (l.drop a) er)) := by
  have HN := RNumber_dec B g er a l w hd hl (by omega)
  have HF : Hid (fromS (l.drop a) er = labsD (l.drop (numR l a er).2.1) (numR l a er).2.2 (min (numR l a er).1 17)) := hid (by unfold fromS; rw [numR_D])
  have hgB : g < B := by obtain ⟨_, _, _, h, _⟩ := hd; exact h
  rw [HF.out]
  generalize (numR l a er).1 = n at *
  generalize (numR l a er).2.1 = p1 at *
  generalize (numR l a er).2.2 = e1 at *
  clear HF hd
  go_enter Tryd.func58, Tryd.ntmps58
  go_wp2_with (go_at_call 34; refine HN.mono ?_; rintro e w1 ⟨rfl, d1, b1⟩; have c1 := (Below.refl B0 w).grown b1 (by omega) (fun k hk => by cases hk; exact h0); have z1 := Nat.le_trans hB b1.size; clear HN)
  go_loopw [4, 5] (fun lv iv wr => ∃ k a' : Nat, iv = .int .i64 k ∧ k ≤ min n 17 ∧ OwnL wr B lv (labsD (l.drop p1) e1 k).1 ∧ RDec wr B g l a' (labsD (l.drop p1) e1 k).2.2 ∧ Hid (l.drop a' = (labsD (l.drop p1) e1 k).2.1) ∧ Below B0 w wr ∧ B ≤ wr.heap.size) (fun _ iv _ => n - (intOf iv).toNat)
  case atStart => exact ⟨0, p1, rfl, by omega, OwnL.nil _ _, d1, hid rfl, c1, z1⟩
  case round =>
    obtain ⟨k, a1, rfl, hk, ho, hd, HA, hbw, hBw⟩ := hrel
    have hkl := labsD_len (l.drop p1) e1 k
    by_cases hlt : k < n ∧ k ≤ 16
    · have HST : Hid (labsD (l.drop p1) e1 (k + 1) = stepD (labsD (l.drop p1) e1 k)) := hid rfl
      generalize labsD (l.drop p1) e1 k = st at *
      obtain ⟨out, rest, er1⟩ := st
      simp only at *
      have T1 := RText_bt B g er1 a1 l wr hd hl (by omega)
      rw [HA.out] at T1
      have hx := txtR_D l a1 er1
      rw [HA.out] at hx
      have HS2 : Hid (labsD (l.drop p1) e1 (k + 1) = (out ++ [(bt (txtD rest er1).1, bt (txtD (l.drop (txtR l a1 er1).2.1) (txtR l a1 er1).2.2).1)], l.drop (txtR l (txtR l a1 er1).2.1 (txtR l a1 er1).2.2).2.1, (txtR l (txtR l a1 er1).2.1 (txtR l a1 er1).2.2).2.2)) := hid (by
        rw [HST.out]
        unfold stepD
        simp only [hx]
        rw [txtR_D])
      have T2 := fun w3 (d3 : RDec w3 B g l (txtR l a1 er1).2.1 (txtR l a1 er1).2.2) => RText_bt B g _ _ l w3 d3 hl (by omega)
      clear hx HST HA
      generalize bt (txtD rest er1).1 = x1 at *
      generalize (txtR l a1 er1).2.1 = a2 at *
      generalize (txtR l a1 er1).2.2 = er2 at *
      generalize bt (txtD (l.drop a2) er2).1 = x2 at *
      generalize (txtR l a2 er2).2.1 = a3 at *
      generalize (txtR l a2 er2).2.2 = er3 at *
      obtain ⟨hlt1, hlt2⟩ := hlt
      have hlt1' : (k : Int) < (n : Int) := by omega
      have hlt2' : (k : Int) ≤ 16 := by omega
      clear hl
      go_wp2_with (first
        | (go_at_call 33; refine T1.mono ?_; rintro e w3 ⟨rfl, d3, b3⟩; have o3 := ho.grown b3 hgB; have c3 := hbw.grown b3 (by have := hbw.size; omega) (fun k hk => by cases hk; exact h0); have z3 := Nat.le_trans hBw b3.size; clear T1 ho hd hbw)
        | (go_at_call 33; refine (T2 _ (d3.below ((Below.refl _ _).alloc z3 _))).mono ?_; rintro e w4 ⟨rfl, d4, b4⟩; have hk4 := grown_new b4 (by omega); have q0 := held_cell (i := 0) hk4 rfl; have q1 := held_cell (i := 1) hk4 rfl; have ff := held_frozen (i := 1) hk4; have ff0 := held_frozen (i := 0) hk4; have o4 := (o3.alloc _).grown b4 hgB; have ne3 := fun k hk => (World.ownsRow.lt o3 k hk).2; have c4 := (c3.alloc (by have := c3.size; omega) _).grown b4 (by have := c3.size; simp; omega) (fun k hk => by cases hk; exact h0); have z4 := b4.size; simp only [World.size_alloc] at z4; clear T2 d3 o3 c3 b4 hk4)
        | (at_builtin; refine wp_appL rfl (.tmp 24) (.tmp 26) rfl B _ _ out [(x1, x2)] rfl ((o4.far (grown_set w4 w3.heap.size 1 (.string ⟨x2.toArray⟩)) (fun k hk => by have := ne3 k hk; omega)).alloc _) rfl (rd_set1 w4 w3.heap.size (.string ⟨x2.toArray⟩) (x1, x2)) (by simp; omega) (by simp; omega) ?_; intro v5 w5 o5 b5 _))
      have b6 : Below B w4 w5 := ((Below.refl B w4).setCell z3 _).trans (below_allocT (by simp; omega) b5)
      go_roundw
      case rel => exact ⟨k + 1, a3, by go_num, by omega, by rw [HS2.out]; exact o5, by rw [HS2.out]; exact d4.below b6, hid (by rw [HS2.out]), c4.trans (b6.mono (by omega)), by have := b6.size; omega⟩
      case measure => simp [intOf]; omega
    · have hkm := hid (show min n 17 = k by omega)
      have rd := ho
      clear hkl
      by_cases h1 : k < n
      · have h1' : (k : Int) < (n : Int) := by omega
        have h2' : ¬ (k : Int) ≤ 16 := by omega
        clear hlt
        go_wp2
        go_ret
        unfold FromOut
        rw [hkm.out]
        exact ⟨_, a1, rfl, rd, hd, HA.out, hbw⟩
      · have h1' : ¬ (k : Int) < (n : Int) := by omega
        clear hlt
        go_wp2
        go_ret
        unfold FromOut
        rw [hkm.out]
        exact ⟨_, a1, rfl, rd, hd, HA.out, hbw⟩
set_option maxRecDepth 100000 in
set_option maxHeartbeats 1000000 in
theorem RRead_own (v : Value) (l : List Nat) (w : World) (hv : Rd w v l) (hl : ∀ c ∈ l, c < 256) (hlen : l.length ≤ 140737488351232) :
    Calls Tryd.prog 32 #[v] w (ReadOwn l w) := by
  have HN := RNew_any v l w hv hlen
  have HF := fun w1 g (d1 : RDec w1 w1.heap.size g l 0 0) (hg : w.heap.size ≤ g) => From_is w1.heap.size g 0 0 w.heap.size l w1 d1 (Nat.le_refl _) hg hl (by omega)
  rw [List.drop_zero] at HF
  have HX : Hid (readS l = if doneD (fromS l 0).2.1 (fromS l 0).2.2 = 0 ∧ rightS (fromS l 0).1 = true then ((fromS l 0).1, 0) else ([], 21)) := hid (by
    unfold readS fromS
    by_cases h : 16 < (numD l 0).1
    · rw [if_pos h, if_neg]
      intro h2
      have hlen := labsD_len (numD l 0).2.1 (numD l 0).2.2 (min (numD l 0).1 17)
      have h3 := h2.2
      simp only [rightS, Bool.and_eq_true, decide_eq_true_eq] at h3
      omega
    · rw [if_neg h, show min (numD l 0).1 17 = (numD l 0).1 by omega])
  have hsub := labsD_sub (numD l 0).2.1 (numD l 0).2.2 (min (numD l 0).1 17)
  have hnum := numD_sub l 0
  have hRt := fun w1 v1 (g1 : RdL w1 v1 (fromS l 0).1) => RefRight_is v1 (fromS l 0).1 w1 g1 (by unfold fromS; rw [labsD_len]; omega) (fun x hx => by have := hsub.2.2 x hx; omega)
  have hD := fun w2 g a2 B (d2 : RDec w2 B g l a2 (fromS l 0).2.2) => RDone_dec B g _ a2 l w2 d2 (by omega)
  generalize fromS l 0 = st at *
  clear hsub hnum hl hv
  by_cases h0 : doneD st.2.1 st.2.2 = 0
  · cases hr : rightS st.1 with
    | true =>
      rw [hr] at hRt
      have HY : Hid (readS l = (st.1, 0)) := hid (by rw [HX.out, if_pos ⟨h0, hr⟩])
      have H0 := hid h0
      clear HX h0 hr
      go_enter Tryd.func32, Tryd.ntmps32
      go_wp2_with (first
        | (go_at_call 31; refine HN.mono ?_; rintro e w1 ⟨g, rfl, hg, d1, b1⟩; clear HN)
        | (go_at_call 58; refine (HF _ _ d1 hg).mono ?_; rintro e w2 ⟨u, a2, rfl, ru, d2, ha2, b2⟩; have D := hD _ _ _ _ d2; rw [ha2, H0.out] at D; clear HF hD ha2 d1 d2)
        | (go_at_call 36; refine D.mono ?_; rintro e w3 ⟨rfl, n, rfl⟩; clear D)
        | (go_at_call 41; refine (hRt _ _ (show RdL (w2.drewN n) u st.1 from ru.rd)).mono ?_; rintro e w4 ⟨rfl, b4⟩; clear hRt))
      go_ret2
      have c4 := below_of_drewN b4
      exact ⟨_, by rw [HY.out]; rfl, by rw [HY.out]; exact (ru.below c4).mono b1.size, (b1.trans b2).trans (c4.mono (b1.trans b2).size)⟩
    | false =>
      rw [hr] at hRt
      have HY : Hid (readS l = ([], 21)) := hid (by rw [HX.out, if_neg (by rw [hr]; simp)])
      have H0 := hid h0
      clear HX h0 hr
      go_enter Tryd.func32, Tryd.ntmps32
      go_wp2_with (first
        | (go_at_call 31; refine HN.mono ?_; rintro e w1 ⟨g, rfl, hg, d1, b1⟩; clear HN)
        | (go_at_call 58; refine (HF _ _ d1 hg).mono ?_; rintro e w2 ⟨u, a2, rfl, ru, d2, ha2, b2⟩; have D := hD _ _ _ _ d2; rw [ha2, H0.out] at D; clear HF hD ha2 d1 d2)
        | (go_at_call 36; refine D.mono ?_; rintro e w3 ⟨rfl, n, rfl⟩; clear D)
        | (go_at_call 41; refine (hRt _ _ (show RdL (w2.drewN n) u st.1 from ru.rd)).mono ?_; rintro e w4 ⟨rfl, b4⟩; clear hRt))
      go_ret2
      have c4 := below_of_drewN b4
      exact ⟨_, by rw [HY.out]; rfl, by rw [HY.out]; exact OwnL.nil _ _, (b1.trans b2).trans (c4.mono (b1.trans b2).size)⟩
  · have HY : Hid (readS l = ([], 21)) := hid (by rw [HX.out, if_neg (fun h => h0 h.1)])
    have hne : ((doneD st.2.1 st.2.2 : Int) == 0) = false := by simp; omega
    have hne2 : ((doneD st.2.1 st.2.2 : Int) != 0) = true := by rw [bne, hne]; rfl
    clear HX h0 hRt
    go_enter Tryd.func32, Tryd.ntmps32
    go_wp2_with (first
      | (go_at_call 31; refine HN.mono ?_; rintro e w1 ⟨g, rfl, hg, d1, b1⟩; clear HN)
      | (go_at_call 58; refine (HF _ _ d1 hg).mono ?_; rintro e w2 ⟨u, a2, rfl, ru, d2, ha2, b2⟩; have D := hD _ _ _ _ d2; rw [ha2] at D; clear HF hD ha2 d1 d2)
      | (go_at_call 36; refine D.mono ?_; rintro e w3 ⟨rfl, n, rfl⟩; clear D))
    go_ret2
    exact ⟨_, by rw [HY.out]; rfl, by rw [HY.out]; exact OwnL.nil _ _, below_dn n (b1.trans b2)⟩
theorem RRead_is (v : Value) (l : List Nat) (w : World) (hv : Rd w v l) (hl : ∀ c ∈ l, c < 256) (hlen : l.length ≤ 140737488351232) :
    Calls Tryd.prog 32 #[v] w (ReadOut l w) :=
  (RRead_own v l w hv hl hlen).mono fun _ _ ⟨u, h1, h2, h3⟩ => ⟨u, h1, h2.rd, h3⟩
end Go.Proofs.YthabkfmcbihbfaaDoor
