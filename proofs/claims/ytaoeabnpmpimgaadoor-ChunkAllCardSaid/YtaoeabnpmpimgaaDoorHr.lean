/-
  A region in a round, taken by the laws that know of no fence. Conditions: those that each theorem names.
  chunk.Right: whether a chunk may be. Conditions: those that each theorem names.
-/
import Derived.Test.YtaoeabnpmpimgaaDoorOrl
import Derived.OrdersHeld
import Derived.Deep.RegionHeld3
import Derived.Test.YtaoeabnpmpimgaaDoorHo
section
namespace Go.Icz
open Go
section
variable {P : Program} {ops : Array Oper} {md : Region.Mode} {n : Nat}
theorem rowsIn_wide {row : String} {args : Array Value} {w : World} {R : Value → World → Prop} (h : Rows P row args w R) : RowsIn Fence.wide n P row args w R :=
  fun c cs _ => let ⟨v, w', r, s⟩ := h c cs; ⟨v, w', r, stepsIn_wide.2 s⟩
theorem opIn_wide {o : Oper} {a : Act} {w : World} {K : Act → World → Prop} {Q : Exit → Act → World → Prop} (hd : ∀ c, o.op ≠ .defer c) (h : o.wp P a w K Q) : o.wpIn Fence.wide n P a w K Q := by
  unfold Oper.wpIn
  refine ⟨fun _ _ => trivial, ?_⟩
  rw [Oper.semAt_eq _ _ _ hd]
  unfold Oper.wp at h
  generalize (execOp a.eval o).run P w = r at *
  cases r with
  | ok x w' =>
    cases x with
    | enter f args => exact ⟨fun hh => (by cases hh), callsIn_wide.2 h⟩
    | row row args => exact ⟨fun hh => (by cases hh), rowsIn_wide h⟩
    | round l f tmps assign body => exact (show False from h).elim
    | _ => exact h
  | halt x w' => cases x <;> exact h
theorem anyIn_wide {Q : Exit → Act → World → Prop} (hd : noDefer ops = true) (hQ : ¬ LetsOut Q) : ∀ (k : Nat) (listed : Array Bool) (a : Act) (w : World), wpAny P md ops Q k listed a w → wpAnyIn Fence.wide n P md ops Q k listed a w
  | 0, _, _, _, h => h
  | k + 1, listed, a, w, h => ⟨h.1, fun i hi => by
    have h1 := h.2 i hi
    unfold wpOp at h1
    unfold wpOpIn
    cases ho : ops[i]? with
    | none =>
      simp only [ho] at h1 ⊢
      exact anyIn_wide hd hQ k _ _ _ h1
    | some o =>
      simp only [ho] at h1 ⊢
      by_cases hw : Region.wanted o (yielded ops a.tmps) = true
      · simp only [hw, if_true] at h1 ⊢
        rcases h1 with h1 | h1
        · exact Oper.wpIn_mono (fun a' w' h' => anyIn_wide hd hQ k _ a' w' h') (opIn_wide (noDefer_spec hd i o ho) h1)
        · exact absurd h1.2 hQ
      · simp only [hw] at h1 ⊢
        exact ⟨fun _ _ => trivial, anyIn_wide hd hQ k _ _ _ (by simpa using h1)⟩⟩
/-- Q, but nothing where memory is outgrown. -/
def NoOut (Q : Exit → Act → World → Prop) (e : Exit) (a : Act) (w : World) : Prop := e ≠ .outgrown ∧ Q e a w
theorem no_out (Q : Exit → Act → World → Prop) : ¬ LetsOut (NoOut Q) := by
  rintro ⟨a, w, h, _⟩
  exact h rfl
/-- THE LAW: what wpAnyH shows holds in a round too. -/
theorem region_round {id r : Nat} {Q : Exit → Act → World → Prop} (S : World → Prop) {a : Act} {w : World} (hm : P.follows .mixedOrders = true) (hd : noDefer ops = true) (hS : S w.drew)
    (h : S w.drew → wpAnyH P .any ops (NoOut Q) S ops.size (Array.replicate ops.size false) a w.drew) : (Code.region id ops true).wpIn (Fence.wide.inRound r) n P Q a w :=
  wpIn_mono (wpIn_region_any hm (wpAnyIn_round r (noDefer_spec hd) _ _ _ _ (anyIn_wide hd (Q := NoOut Q) (no_out Q) _ _ _ _ (wpAny_of_held _ _ _ _ (h hS))))) (fun _ _ _ h => h.2)
end
end Go.Icz
end
section
namespace Go.Proofs.YtaoeabnpmpimgaaDoor
open Go.RowKit Go.Icz Go.Shelf
attribute [local go_sem] Oper.semAt_some
set_option maxRecDepth 100000
set_option maxHeartbeats 4000000
set_option linter.unusedSimpArgs false
theorem CRight_no (labs : List Lab) (rows : List CRow) (A A2 : Option Addr) (C C2 : Nat) (w : World) (hln : rows.length ≤ 4611686018427387904) (hb : ¬ (1 ≤ rows.length ∧ rows.length ≤ 1000)) :
    Calls Tryd.prog 14 #[.agg #[.slice A labs.length C, .slice A2 rows.length C2]] w fun e w' => e = .returned (.bool (chR labs rows)) ∧ Below w.heap.size w w' := by
  have hf : chR labs rows = false := by
    unfold chR
    by_cases h : 1 ≤ rows.length
    · have h2 : ¬ rows.length ≤ 1000 := fun h2 => hb ⟨h, h2⟩
      simp [h2]
    · simp [h]
  rw [hf]
  have hr : ((w.alloc (.cells #[.slice A labs.length C, .slice A2 rows.length C2] 39)).alloc (.cells #[.bool false] 4)).heap[w.heap.size + 1]? = some (.cells #[.bool false] 4 (0, 0)) := heap_alloc2_new w _ _
  have hs := setCell_same hr
  have f0 := held_cell (i := 0) hr rfl
  have f1 := held_frozen (i := 0) hr
  have HH := hid hr
  have hbel : Below w.heap.size w ((w.alloc (.cells #[.slice A labs.length C, .slice A2 rows.length C2] 39)).alloc (.cells #[.bool false] 4)) := ((Below.refl _ w).alloc (Nat.le_refl _) _).alloc (by rw [World.size_alloc]; omega) _
  have HB := hid hbel
  by_cases h : rows.length < 1
  · have d1 : (rows.length : Int) < 1 := by omega
    clear hb hf h hln hbel
    go_enter Tryd.func14, Tryd.ntmps14
    go_wp2
    refine bodyPost_ret (results_cell_bool rfl _ _ (w.heap.size + 1) false rfl HH.out) rfl ?_
    exact ⟨rfl, HB.out⟩
  · have d1 : ¬ (rows.length : Int) < 1 := by omega
    have d2 : (1000 : Int) < (rows.length : Int) := by omega
    clear hb hf h hln hbel
    go_enter Tryd.func14, Tryd.ntmps14
    go_wp2
    refine bodyPost_ret (results_cell_bool rfl _ _ (w.heap.size + 1) false rfl HH.out) rfl ?_
    exact ⟨rfl, HB.out⟩
theorem CRight_yes (labs : List Lab) (rows : List CRow) (A A2 : Option Addr) (C C2 : Nat) (w : World) (hL : RdL w (.slice A labs.length C) labs) (hR : KRw.Rd w (.slice A2 rows.length C2) rows) (hT : Tabs w) (hz : ∀ x ∈ rows, entZ (entC labs x)) (h1 : 1 ≤ rows.length) (h2 : rows.length ≤ 1000) :
    Calls Tryd.prog 14 #[.agg #[.slice A labs.length C, .slice A2 rows.length C2]] w fun e w' => e = .returned (.bool (chR labs rows)) ∧ Below w.heap.size w w' := by
  obtain ⟨W0, hW0⟩ : ∃ W0, W0 = (w.alloc (.cells #[.slice A labs.length C, .slice A2 rows.length C2] 39)).alloc (.cells #[.bool false] 4) := ⟨_, rfl⟩
  have b0 : Below w.heap.size w W0 := by rw [hW0]; exact ((Below.refl _ w).alloc (Nat.le_refl _) _).alloc (by rw [World.size_alloc]; omega) _
  have z0 : W0.heap.size = w.heap.size + 2 := by rw [hW0]; simp
  have x1 : W0.heap[w.heap.size]? = some (.cells #[.slice A labs.length C, .slice A2 rows.length C2] 39 (0, 0)) := by rw [hW0]; exact heap_alloc2_old w _ _
  have x2 : W0.heap[w.heap.size + 1]? = some (.cells #[.bool false] 4 (0, 0)) := by rw [hW0]; exact heap_alloc2_new w _ _
  -- what holds in every later memory
  obtain ⟨Pw, hPw⟩ : ∃ Pw : World → Prop, Pw = fun wx => Below W0.heap.size W0 wx := ⟨_, rfl⟩
  have HP := hid hPw
  have cells : ∀ wx, Hid (Pw wx) → wx.cell? ⟨w.heap.size, 0, none⟩ = some (.slice A labs.length C) ∧ wx.cell? ⟨w.heap.size, 1, none⟩ = some (.slice A2 rows.length C2) ∧ wx.cell? ⟨w.heap.size + 1, 0, none⟩ = some (.bool false) ∧ wx.frozen? ⟨w.heap.size + 1, 0, none⟩ = false ∧ wx.setCell ⟨w.heap.size + 1, 0, none⟩ (.bool false) = wx := fun wx h => by
    have b := h.out
    rw [HP.out] at b
    have y1 := (b.block w.heap.size (by omega)).trans x1
    have y2 := (b.block (w.heap.size + 1) (by omega)).trans x2
    exact ⟨held_cell y1 rfl, held_cell y1 rfl, held_cell y2 rfl, held_frozen y2, setCell_same y2⟩
  have step : ∀ wx wy, Hid (Pw wx) → Below wx.heap.size wx wy → Hid (Pw wy) := fun wx wy h b => by
    have h0 := h.out
    rw [HP.out] at h0
    refine hid ?_
    rw [HP.out]
    exact h0.trans (b.mono h0.size)
  have ents : ∀ wx x, Hid (Pw wx) → x ∈ rows → Calls Tryd.prog 17 #[entV (entC labs x) A C] wx fun e w' => e = .returned (.bool (entR (entC labs x))) ∧ Below wx.heap.size wx w' := fun wx x h hx => by
    have b := h.out
    rw [HP.out] at b
    have bb := b0.trans (b.mono b0.size)
    exact ERight_is (entC labs x) A C wx (hL.below bb) (hT.below bb) (hz x hx)
  have rws : ∀ wx, Hid (Pw wx) → KRw.Rd wx (.slice A2 rows.length C2) rows := fun wx h => by
    have b := h.out
    rw [HP.out] at b
    exact hR.below (b0.trans (b.mono b0.size))
  have HPW0 : Hid (Pw W0) := hid (by rw [hPw]; exact Below.refl _ _)
  have HB := hid (And.intro b0 z0)
  have HE := hid ents
  have HC := hid cells
  have HS := hid step
  have HRW := hid rws
  have d1 : ¬ (rows.length : Int) < 1 := by omega
  have d2 : ¬ (1000 : Int) < (rows.length : Int) := by omega
  have HLn := hid (And.intro h1 h2)
  have HX := hid (And.intro x1 x2)
  clear hPw cells step ents rws b0 z0 x1 x2 hL hR hT hz h1 h2
  refine (callsIn_wide (n := 9)).1 ?_
  refine callsIn_of_wp_marks Tryd.func14 rfl trivial (wpIn_wide.2 ?_) rfl
  simp only [Tryd.ntmps14, List.size_toArray, List.length_cons, List.length_nil, Nat.reduceAdd, Nat.reduceSub, Array.replicate_succ, Array.replicate_zero, List.push_toArray, List.append_toArray, List.nil_append, List.cons_append]
  go_wp2
  rw [← hW0]
  go_loopw [20] (fun iv wr => ∃ i : Nat, iv = .int .i64 (i : Int) ∧ Hid (i ≤ rows.length ∧ ((rows.take i).all fun x => entR (entC labs x)) = true) ∧ Hid (Pw wr)) (fun iv _ => rows.length - (intOf iv).toNat)
  case atStart => exact ⟨0, rfl, hid ⟨Nat.zero_le _, rfl⟩, HPW0⟩
  case round =>
    obtain ⟨i, rfl, hi, HJ⟩ := hrel
    obtain ⟨e1, e2, e3, e4, e5⟩ := HC.out _ HJ
    by_cases hil : i < rows.length
    · have hii : (i : Int) < (rows.length : Int) := by omega
      obtain ⟨bR, offR, cR, hvR, hltR, hcs⟩ := (HRW.out _ HJ).ats hil
      injection hvR with hv1 _ hv2
      have g0 : wr.cell? ⟨bR, offR + i * 3, none⟩ = some (.int .i64 rows[i].seq) := hcs i hil 0 _ (by decide) rfl
      have g1 : wr.cell? ⟨bR, offR + i * 3 + 1, none⟩ = some (.int .i64 rows[i].time) := hcs i hil 1 _ (by decide) rfl
      have g2 : wr.cell? ⟨bR, offR + i * 3 + 2, none⟩ = some (.string ⟨rows[i].line.toArray⟩) := hcs i hil 2 _ (by decide) rfl
      have hm := List.getElem_mem hil
      have hta : (rows.take (i + 1)).all (fun x => entR (entC labs x)) = ((rows.take i).all (fun x => entR (entC labs x)) && entR (entC labs rows[i])) := by rw [List.take_succ_eq_append_getElem hil, List.all_append]; simp
      have hall : rowsR labs rows = true → entR (entC labs rows[i]) = true := fun h => List.all_eq_true.1 h _ hm
      have HL2 := HLn.out
      have zi : IntKind.i64.wrap ((i : Int) + 1) = (i : Int) + 1 := by rw [IntKind.wrap_i64]; omega
      have hEr := fun wx (h : Hid (Pw wx)) => HE.out wx rows[i] h hm
      have hEn := fun wx => entry_is labs A labs.length C rows[i] wx rfl
      unfold rowV at hEn
      have HT := hid (And.intro hil hta)
      have HAl := hid hall
      generalize rows[i] = x at *
      generalize entC labs x = ex at *
      generalize entR ex = y at *
      subst hv1
      subst hv2
      have HJA : Hid (Pw (wr.alloc (.cells #[.int .i64 x.seq, .int .i64 x.time, .string ⟨x.line.toArray⟩] 45))) := HS.out _ _ HJ ((Below.refl _ wr).alloc (Nat.le_refl _) _)
      have ea := (HC.out _ HJA).1
      clear hcs hm hta hall hltR hil HL2
      cases y
      · go_wp2_with (first
          | (go_at_call 36; refine (hEn _).mono ?_; rintro e w5 ⟨rfl, b5⟩; have HJ5 := HS.out _ _ HJA b5; clear b5 hEn ea)
          | (go_at_call 17; refine (hEr _ HJ5).mono ?_; rintro e w6 ⟨rfl, b6⟩; have HJ6 := HS.out _ _ HJ5 b6; obtain ⟨e1', e2', e3', e4', e5'⟩ := HC.out _ HJ6; clear hEr b6 e1 e2 e3 e4 e5))
        have b06 : Below W0.heap.size W0 w6 := by have := HJ6.out; rwa [HP.out] at this
        have hrow : w6.heap[w.heap.size + 1]? = some (.cells #[.bool false] 4 (0, 0)) := (b06.block _ (by have := HB.out.2; omega)).trans HX.out.2
        have hf : chR labs rows = false := by
          have h3 : rowsR labs rows = false := by
            cases h : rowsR labs rows
            · rfl
            · exact absurd (HAl.out h) (by decide)
          unfold chR
          rw [h3]
          simp
        exact ⟨_, results_cell_bool rfl _ _ (w.heap.size + 1) false rfl hrow, by rw [hf], HB.out.1.trans (b06.mono HB.out.1.size)⟩
      · go_wp2_with (first
          | (go_at_call 36; refine (hEn _).mono ?_; rintro e w5 ⟨rfl, b5⟩; have HJ5 := HS.out _ _ HJA b5; clear b5 hEn ea)
          | (go_at_call 17; refine (hEr _ HJ5).mono ?_; rintro e w6 ⟨rfl, b6⟩; have HJ6 := HS.out _ _ HJ5 b6; clear hEr b6 e1 e2 e3 e4 e5))
        go_roundw
        case rel => exact ⟨i + 1, by go_num, hid ⟨HT.out.1, by rw [HT.out.2, hi.out.2]; rfl⟩, HJ6⟩
        case measure => have := HT.out.1; simp [intOf]; omega
    · have hii : ¬ (i : Int) < (rows.length : Int) := by omega
      have he : rows.take i = rows := List.take_of_length_le (by omega)
      have HA := hid hi.out.2
      rw [he] at HA
      clear he hi hil
      go_wp2_with (first | (go_at_call 37; refine (pairsR_is _ _ _ _).mono ?_; rintro e w3 ⟨rfl, hw3⟩))
      have y0 : KRw.Rd w3 (.slice A2 rows.length C2) rows := by rw [hw3]; exact (HRW.out _ HJ).below ((Below.refl _ wr).alloc (Nat.le_refl _) _)
      have hsb : w3.cell? ⟨wr.heap.size, 0, none⟩ = some (.slice A2 rows.length C2) := by rw [hw3]; exact held_cell (i := 0) (heap_alloc_new wr _) rfl
      have z3 : w3.heap.size = wr.heap.size + 1 := by rw [hw3]; simp
      have HJ3 : Hid (Pw w3) := by rw [hw3]; exact HS.out _ _ HJ ((Below.refl _ wr).alloc (Nat.le_refl _) _)
      have hseq := pairsR1_gives w3 wr.heap.size (.slice A2 rows.length C2) rows hsb (by omega) y0 (by have := HLn.out; omega)
      rw [← hw3]
      have HP3 := hid (show Below W0.heap.size W0 w3 by have := HJ3.out; rwa [HP.out] at this)
      have Z3 := hid z3
      clear hw3 hsb y0 e1 e2 e3 e4 e5 hii z3
      obtain ⟨I, hI0⟩ : ∃ I : List (CRow × CRow) → World → Prop, I = (fun pre Wi => (pre.all fun p => decide (cmpE (entC labs p.1) (entC labs p.2) < 0)) = true ∧ Below W0.heap.size W0 Wi) := ⟨_, rfl⟩
      obtain ⟨R, hR0⟩ : ∃ R : World → Prop, R = (fun Wi => rowsB labs rows = false ∧ Below W0.heap.size W0 Wi) := ⟨_, rfl⟩
      have HI0 := hid hI0
      have HR0 := hid hR0
      clear hI0 hR0
      refine (wpIn_wide (n := 8)).1 (wp_rangeFuncG (ps := #[34, 35]) (gf := 61) (lb := #[.pointer (some ⟨wr.heap.size, 0, none⟩)]) rfl (enters_of Tryd.func61 (by kernel_rfl) rfl) (fun _ => rfl) hseq
        I R
        (fun s a b h t => by rw [HI0.out] at h ⊢; have := HP3.out.size; exact ⟨h.1, Tch.below h.2 t (fun j hj => by omega) h.2.size⟩)
        (fun a b h t => by rw [HR0.out] at h ⊢; have := HP3.out.size; exact ⟨h.1, Tch.below h.2 t (fun j hj => by omega) h.2.size⟩)
        (by rw [HI0.out]; exact ⟨rfl, HP3.out⟩)
        (fun x b => { tmps := #[.agg #[.slice A labs.length C, .slice A2 rows.length C2], .pointer (some ⟨w.heap.size, 0, none⟩), .pointer (some ⟨w.heap.size + 1, 0, none⟩), undef, u4, .pointer (some ⟨b, 0, none⟩), .pointer (some ⟨b + 1, 0, none⟩), .pointer (some ⟨w.heap.size, 1, none⟩), .slice A2 rows.length C2, .int .i64 (rows.length : Int), .bool false, .bool false, .pointer (some ⟨w.heap.size, 1, none⟩), .slice A2 rows.length C2, .int .i64 (rows.length : Int), .bool false, .bool false, .pointer (some ⟨w.heap.size, 1, none⟩), .slice A2 rows.length C2, .int .i64 (rows.length : Int), .int .i64 (i : Int), .bool false, u22, u23, u24, u25, u26, u27, u28, u29, u30, .pointer (some ⟨w.heap.size, 1, none⟩), .slice A2 rows.length C2, .func (.func 61) #[] #[.pointer (some ⟨wr.heap.size, 0, none⟩)], rowV x.1, rowV x.2, undef, undef, undef, undef, undef, undef, undef, undef, undef, undef, undef, undef, undef], defers := [] })
        (fun x W => (W.alloc (.cells #[.int .i64 x.1.seq, .int .i64 x.1.time, .string ⟨x.1.line.toArray⟩] 45)).alloc (.cells #[.int .i64 x.2.seq, .int .i64 x.2.time, .string ⟨x.2.line.toArray⟩] 45))
        (fun x W => ((Below.refl _ W).alloc (Nat.le_refl _) _).alloc (by rw [World.size_alloc]; omega) _) ?assign ?body ?done ?stop)
      case assign =>
        intro l x Wi K _ hK
        unfold rowV at hK ⊢
        gi_wp2
        exact hK
      case body =>
        rintro l pre x rest b W0' Wi hx hb1 hb2 hbs hrows hI
        rw [HI0.out] at hI
        obtain ⟨h1, h3⟩ := hI
        have HPi : Hid (Pw Wi) := hid (by rw [HP.out]; exact h3)
        have kk : ∀ wx, Below Wi.heap.size Wi wx → wx.heap[b]? = some (.cells #[.int .i64 x.1.seq, .int .i64 x.1.time, .string ⟨x.1.line.toArray⟩] 45 (0, 0)) ∧ wx.heap[b + 1]? = some (.cells #[.int .i64 x.2.seq, .int .i64 x.2.time, .string ⟨x.2.line.toArray⟩] 45 (0, 0)) := fun wx bb => by
          subst hb2
          rw [World.size_alloc, World.size_alloc] at hbs
          exact ⟨(bb.block _ (by omega)).trans ((hrows _ (Nat.le_refl _)).trans (heap_alloc2_old _ _ _)), (bb.block _ (by omega)).trans ((hrows _ (by omega)).trans (heap_alloc2_new _ _ _))⟩
        obtain ⟨S, hS0⟩ : ∃ S : World → Prop, S = (fun wx => wx.cell? ⟨w.heap.size, 0, none⟩ = some (.slice A labs.length C) ∧ (wx.cell? ⟨b, 0, none⟩ = some (.int .i64 x.1.seq) ∧ wx.cell? ⟨b, 1, none⟩ = some (.int .i64 x.1.time) ∧ wx.cell? ⟨b, 2, none⟩ = some (.string ⟨x.1.line.toArray⟩)) ∧ wx.cell? ⟨b + 1, 0, none⟩ = some (.int .i64 x.2.seq) ∧ wx.cell? ⟨b + 1, 1, none⟩ = some (.int .i64 x.2.time) ∧ wx.cell? ⟨b + 1, 2, none⟩ = some (.string ⟨x.2.line.toArray⟩)) := ⟨_, rfl⟩
        have hS : ∀ wx, Below Wi.heap.size Wi wx → S wx := fun wx bb => by
          obtain ⟨r1, r2⟩ := kk wx bb
          rw [hS0]
          exact ⟨(HC.out _ (HS.out _ _ HPi bb)).1, ⟨held_cell r1 rfl, held_cell r1 rfl, held_cell r1 rfl⟩, held_cell r2 rfl, held_cell r2 rfl, held_cell r2 rfl⟩
        have Bw := hid h3
        have HX1 := hid (And.intro hx h1)
        have HSS := hid hS
        have e1 := fun wx => entry_is labs A labs.length C x.1 wx rfl
        have e2 := fun wx => entry_is labs A labs.length C x.2 wx rfl
        have hBf := fun wx => Before_is (entC labs x.1) (entC labs x.2) A A C C wx
        generalize hy : decide (cmpE (entC labs x.1) (entC labs x.2) < 0) = y at hBf
        have HY := hid hy
        clear hy
        unfold rowV at e1 e2
        clear h1 h3 hx hrows hbs hseq hb1 hb2 kk hS
        unfold rowV
        gi_wp2
        refine region_round S (by kernel_rfl) (by kernel_rfl) (HSS.out _ (Below.refl _ _).drew) (fun h0 => ?_)
        refine wpAnyH_take (i := 0) (v := ?_) rfl (by kernel_rfl) (by kernel_rfl) (by kernel_rfl) (fun _ _ _ h => h) (Or.inl ⟨by rfl, ?_⟩) (by assumption) ?_
        rotate_left
        · (intro wS hSw; rw [hS0] at hSw; (try dsimp only at hSw); go_simp; try with_reducible rfl)
        try simp only [Act.put, List.setIfInBounds_toArray, List.set_cons_zero, List.set_cons_succ]
        refine wpAnyH_take (i := 1) (v := ?_) rfl (by kernel_rfl) (by kernel_rfl) (by kernel_rfl) (fun _ _ _ h => h) (Or.inl ⟨by rfl, ?_⟩) (by assumption) ?_
        rotate_left
        · (intro wS hSw; rw [hS0] at hSw; (try dsimp only at hSw); go_simp; try with_reducible rfl)
        try simp only [Act.put, List.setIfInBounds_toArray, List.set_cons_zero, List.set_cons_succ]
        refine wpAnyH_take (i := 2) (v := ?_) rfl (by kernel_rfl) (by kernel_rfl) (by kernel_rfl) (fun _ _ _ h => h) (Or.inl ⟨by rfl, ?_⟩) (by assumption) ?_
        rotate_left
        · (intro wS hSw; rw [hS0] at hSw; (try dsimp only at hSw); go_simp; try with_reducible rfl)
        try simp only [Act.put, List.setIfInBounds_toArray, List.set_cons_zero, List.set_cons_succ]
        refine wpAnyH_take (i := 4) (v := ?_) rfl (by kernel_rfl) (by kernel_rfl) (by kernel_rfl) (fun _ _ _ h => h) (Or.inl ⟨by rfl, ?_⟩) (by assumption) ?_
        rotate_left
        · (intro wS hSw; rw [hS0] at hSw; (try dsimp only at hSw); go_simp; try with_reducible rfl)
        try simp only [Act.put, List.setIfInBounds_toArray, List.set_cons_zero, List.set_cons_succ]
        refine wpAnyH_take (i := 5) (v := ?_) rfl (by kernel_rfl) (by kernel_rfl) (by kernel_rfl) (fun _ _ _ h => h) (Or.inl ⟨by rfl, ?_⟩) (by assumption) ?_
        rotate_left
        · (intro wS hSw; rw [hS0] at hSw; (try dsimp only at hSw); go_simp; try with_reducible rfl)
        try simp only [Act.put, List.setIfInBounds_toArray, List.set_cons_zero, List.set_cons_succ]
        refine wpAnyH_take (i := 6) (v := ?_) rfl (by kernel_rfl) (by kernel_rfl) (by kernel_rfl) (fun _ _ _ h => h) (Or.inl ⟨by rfl, ?_⟩) (by assumption) ?_
        rotate_left
        · (intro wS hSw; rw [hS0] at hSw; (try dsimp only at hSw); go_simp; try with_reducible rfl)
        try simp only [Act.put, List.setIfInBounds_toArray, List.set_cons_zero, List.set_cons_succ]
        refine wpAnyH_ready (rs := [3]) (by kernel_rfl) (by simp) ?_
        refine AllReadyH.cons rfl (fun K hK => ?_) AllReadyH.nil
        (go_simp; go_at_call 36; refine (e1 _).mono ?_; rintro e w5 ⟨rfl, b5⟩; have b05 : Below Wi.heap.size Wi w5 := (Below.refl Wi.heap.size Wi).drew.trans b5)
        refine hK.out _ _ (HSS.out _ b05) (fun hnew => ?_)
        clear hK K
        try simp only [Act.put, List.setIfInBounds_toArray, List.set_cons_zero, List.set_cons_succ]
        refine wpAnyH_ready (rs := [7]) (by kernel_rfl) (by simp) ?_
        refine AllReadyH.cons rfl (fun K hK => ?_) AllReadyH.nil
        (go_simp; go_at_call 36; refine (e2 _).mono ?_; rintro e w6 ⟨rfl, b6⟩; have b06 : Below Wi.heap.size Wi w6 := b05.trans (b6.mono b05.size))
        refine hK.out _ _ (HSS.out _ b06) (fun hnew => ?_)
        clear hK K
        try simp only [Act.put, List.setIfInBounds_toArray, List.set_cons_zero, List.set_cons_succ]
        refine wpAnyH_ready (rs := [8]) (by kernel_rfl) (by simp) ?_
        refine AllReadyH.cons rfl (fun K hK => ?_) AllReadyH.nil
        (go_simp; go_at_call 38; refine (hBf _).mono ?_; rintro e w7 ⟨rfl, b7⟩; have b07 : Below Wi.heap.size Wi w7 := b06.trans (b7.mono b06.size))
        refine hK.out _ _ (HSS.out _ b07) (fun hnew => ?_)
        clear hK K
        try simp only [Act.put, List.setIfInBounds_toArray, List.set_cons_zero, List.set_cons_succ]
        refine wpAnyH_take (i := 9) (v := ?_) rfl (by kernel_rfl) (by kernel_rfl) (by kernel_rfl) (fun _ _ _ h => h) (Or.inl ⟨by rfl, ?_⟩) (by assumption) ?_
        rotate_left
        · (intro wS hSw; rw [hS0] at hSw; (try dsimp only at hSw); go_simp; try with_reducible rfl)
        try simp only [Act.put, List.setIfInBounds_toArray, List.set_cons_zero, List.set_cons_succ]
        refine wpAnyH_done (by kernel_rfl) ?_ _
        refine And.intro (fun h => (by cases h)) ?_
        obtain ⟨-, -, f1, f2, f3⟩ := HC.out _ (HS.out _ _ HPi b07)
        have bw7 : Below W0.heap.size W0 w7 := Bw.out.trans (b07.mono Bw.out.size)
        have hxx := HX1.out
        clear hnew
        cases y
        · have RX : R w7 := by
            rw [HR0.out]
            refine ⟨?_, bw7⟩
            unfold rowsB
            rw [hxx.1, List.all_append, List.all_cons, HY.out]
            simp
          have KX : Kept w3.heap.size Wi w7 := Kept.of_below b07
          clear hxx
          gi_wp2
          first | exact RX | exact ⟨KX, RX⟩
        · have IX : I (pre ++ [x]) w7 := by
            rw [HI0.out]
            exact ⟨by rw [List.all_append, hxx.2, List.all_cons, HY.out]; rfl, bw7⟩
          have KX : Kept w3.heap.size Wi w7 := Kept.of_below b07
          clear hxx
          gi_wp2
          first | exact IX | exact ⟨KX, IX⟩
      case done =>
        rintro D Wi hD hI hK
        rw [HI0.out] at hI
        obtain ⟨h1, h3⟩ := hI
        have HPi : Hid (Pw Wi) := hid (by rw [HP.out]; exact h3)
        have hO := fun v wx hr => Once_is v rows wx hr HLn.out.2
        have hKf : ∀ wx, Below Wi.heap.size Wi wx → wx.heap[D]? = some (.deferred (some [])) := fun wx b => (b.block D (Array.getElem?_eq_some_iff.1 hK).1).trans hK
        obtain ⟨e1, e2, e3, e4, e5⟩ := HC.out _ HPi
        have hD2 : w.heap.size + 1 < D := by have := HP3.out.size; have := HB.out.2; omega
        have hch : chR labs rows = (rowsR labs rows && onceB (rows.map (·.seq))) := by
          unfold chR
          have h0 := HLn.out
          rw [show rowsB labs rows = true from h1]
          simp [h0.1, h0.2]
        have hrr : rowsR labs rows = true := HA.out
        rw [hrr, Bool.true_and] at hch
        have HCH := hid hch
        have HI3 := hid h3
        clear h1 h3 hseq hch hrr hK
        unfold markD
        generalize onceB (rows.map (·.seq)) = yo at *
        have hOO := hO _ _ (HRW.out _ HPi)
        clear hO
        go_wp2_with (go_at_call 39; refine hOO.mono ?_; rintro e w8 ⟨rfl, b8⟩; have HP8 := HS.out _ _ HPi b8; obtain ⟨f1, f2, f3, f4, f5⟩ := HC.out _ HP8; have hK8 := hKf _ b8; clear e1 e2 e3 e4 e5 hOO)
        have b08 : Below W0.heap.size W0 w8 := by have := HP8.out; rwa [HP.out] at this
        have hz := HB.out.2
        have hz8 := b08.size
        have hrow : w8.heap[w.heap.size + 1]? = some (.cells #[.bool false] 4 (0, 0)) := (b08.block _ (by omega)).trans HX.out.2
        have hK9 : (w8.setCell ⟨w.heap.size + 1, 0, none⟩ (.bool yo)).heap[D]? = some (.deferred (some [])) := (Below.heap_setCell w8 ⟨w.heap.size + 1, 0, none⟩ (.bool yo) D (by show D ≠ w.heap.size + 1; omega)).trans hK8
        have hfin : ((w8.setCell ⟨w.heap.size + 1, 0, none⟩ (.bool yo)).putObj D (.deferred none)).heap[w.heap.size + 1]? = some (.cells #[.bool yo] 4 (0, 0)) := (World.putObj_heap_other (by omega)).trans (row_set hrow (.bool yo))
        have hbel : Below w.heap.size w ((w8.setCell ⟨w.heap.size + 1, 0, none⟩ (.bool yo)).putObj D (.deferred none)) :=
          (HB.out.1.trans (b08.mono HB.out.1.size)).trans (((Tch.set (fun k => w.heap.size ≤ k) w8 ⟨w.heap.size + 1, 0, none⟩ (.bool yo) (show w.heap.size ≤ w.heap.size + 1 by omega)).trans (tch_putObj _ (show w.heap.size ≤ D by omega))).to_below (fun _ h => h) (by omega))
        refine ⟨by simp, .inl ⟨_, _, rfl, run_takeDeferred hK9, ?_⟩⟩
        exact ⟨_, results_cell_bool rfl _ _ (w.heap.size + 1) yo rfl hfin, by rw [HCH.out], hbel⟩
      case stop =>
        rintro D Wi hD hI hK
        rw [HR0.out] at hI
        obtain ⟨h1, h3⟩ := hI
        have hz := HB.out.2
        have hz3 := HP3.out.size
        have hrow : Wi.heap[w.heap.size + 1]? = some (.cells #[.bool false] 4 (0, 0)) := (h3.block _ (by omega)).trans HX.out.2
        have hfin : (Wi.putObj D (.deferred none)).heap[w.heap.size + 1]? = some (.cells #[.bool false] 4 (0, 0)) := (World.putObj_heap_other (by omega)).trans hrow
        have hbel : Below w.heap.size w (Wi.putObj D (.deferred none)) :=
          (HB.out.1.trans (h3.mono HB.out.1.size)).trans ((tch_putObj (S := fun k => w.heap.size ≤ k) _ (show w.heap.size ≤ D by omega)).to_below (fun _ h => h) (by have := h3.size; omega))
        have hch : chR labs rows = false := by
          unfold chR
          rw [h1]
          simp
        have HH := hid (And.intro hfin (And.intro hbel hch))
        clear h1 h3 hseq hfin hbel hrow hz hz3 hch
        unfold markD
        go_wp2
        refine ⟨by simp, .inl ⟨_, _, rfl, run_takeDeferred hK, ?_⟩⟩
        exact ⟨_, results_cell_bool rfl _ _ (w.heap.size + 1) false rfl HH.out.1, by rw [HH.out.2.2], HH.out.2.1⟩
theorem CRight_is (labs : List Lab) (rows : List CRow) (A A2 : Option Addr) (C C2 : Nat) (w : World) (hL : RdL w (.slice A labs.length C) labs) (hR : KRw.Rd w (.slice A2 rows.length C2) rows) (hT : Tabs w) (hz : ∀ x ∈ rows, entZ (entC labs x)) (hln : rows.length ≤ 4611686018427387904) :
    Calls Tryd.prog 14 #[.agg #[.slice A labs.length C, .slice A2 rows.length C2]] w fun e w' => e = .returned (.bool (chR labs rows)) ∧ Below w.heap.size w w' := by
  by_cases h : 1 ≤ rows.length ∧ rows.length ≤ 1000
  · exact CRight_yes labs rows A A2 C C2 w hL hR hT hz h.1 h.2
  · exact CRight_no labs rows A A2 C C2 w hln h
end Go.Proofs.YtaoeabnpmpimgaaDoor
end
