/-
  chunk.eachSeqOnce: no number twice. Conditions: those that each theorem names.
-/
import Derived.Test.YtaoeabnpmpimgaaDoorHs
import Derived.Test.YtaoeabnpmpimgaaDoorHe
import Derived.Deep.DeepCutAuto
import Derived.Deep.CutRange
import Derived.Deep.CutBlock
namespace Go.Icz
open Go.RowKit
theorem prs_nodup : ∀ {l : List Int}, l.Pairwise (fun a b => a ≤ b) → ((prs l 0).all fun p => p.1 != p.2) = decide l.Nodup
  | [], _ => by simp [prs]
  | [a], _ => by simp [prs]
  | a :: b :: t, h => by
    have ih := prs_nodup (l := b :: t) (List.Pairwise.of_cons h)
    have e : prs (a :: b :: t) 0 = (a, b) :: prs (b :: t) 0 := by simp [prs]
    rw [e, List.all_cons, ih]
    have hab : a ≤ b := List.rel_of_pairwise_cons h (by simp)
    by_cases hx : a = b
    · subst hx
      simp
    · have hn : a ∉ b :: t := by
        intro hm
        rcases List.mem_cons.1 hm with rfl | hm
        · exact hx rfl
        · have h2 := List.rel_of_pairwise_cons (List.Pairwise.of_cons h) hm
          omega
      simp only [List.nodup_cons] at *
      simp [hx, hn]
theorem sorted_ints (l : List Int) : (l.mergeSort fun x y => decide (x ≤ y)).Pairwise fun a b => a ≤ b := by
  have := List.pairwise_mergeSort (le := fun (x y : Int) => decide (x ≤ y)) (fun a b c h1 h2 => by simp at *; omega) (fun a b => by simp; omega) l
  exact this.imp (fun h => by simpa using h)
theorem once_sorted (l : List Int) : ((prs (l.mergeSort fun x y => decide (x ≤ y)) 0).all fun p => p.1 != p.2) = onceB l := by
  rw [prs_nodup (sorted_ints l)]
  unfold onceB
  rw [decide_eq_decide]
  exact (List.mergeSort_perm l _).nodup_iff
end Go.Icz
namespace Go.Proofs.YtaoeabnpmpimgaaDoor
open Go.RowKit Go.Icz Go.Shelf
attribute [local go_sem] Oper.semAt_some
set_option maxRecDepth 100000
set_option maxHeartbeats 4000000
theorem setCell_same {W : World} {b : Nat} {v : Value} {t : TypeId} (h : W.heap[b]? = some (.cells #[v] t (0, 0))) : W.setCell ⟨b, 0, none⟩ v = W := by
  have e : (W.setCell ⟨b, 0, none⟩ v).heap = W.heap := by
    apply Array.ext_getElem?
    intro k
    by_cases hk : k = b
    · subst hk
      rw [row_set h, h]
      rfl
    · exact Below.heap_setCell W ⟨b, 0, none⟩ v k hk
  have e2 : W.setCell ⟨b, 0, none⟩ v = { W with heap := (W.setCell ⟨b, 0, none⟩ v).heap } := rfl
  rw [e2, e]
theorem results_cell_bool {fn : Func} {p : Tmp} (h : fn.results = #[.cell p 4]) (tmps : Array Value) (w : World) (g : Nat) (y : Bool)
    (hp : tmps.getD p undef = .pointer (some ⟨g, 0, none⟩)) (hg : w.heap[g]? = some (.cells #[.bool y] 4 (0, 0))) :
    (results fn tmps).run Tryd.prog w = .ok (.bool y) w := by
  have hp' : tmps[p]?.getD undef = .pointer (some ⟨g, 0, none⟩) := by simpa using hp
  have hc : w.cell? ⟨g, 0, none⟩ = some (.bool y) := held_cell hg rfl
  simp [results, h, hp', asAddr, loadVar, go_sem, hc, Tryd.underlying4]
theorem infoI : (Tryd.prog.info? KInt.e).map (fun i => (i.zero, i.size, i.bytes)) = some (some (.int .i64 0), KInt.z, 8) := by kernel_rfl
theorem Once_is (v : Value) (l : List CRow) (w : World) (hr : KRw.Rd w v l) (hlen : l.length ≤ 1000) :
    Calls Tryd.prog 39 #[v] w fun e w' => e = .returned (.bool (onceB (l.map (·.seq)))) ∧ Below w.heap.size w w' := by
  obtain ⟨A, c, rfl, hc, _⟩ := id hr
  obtain ⟨W1, hW1⟩ : ∃ W1, W1 = w.alloc (.cells #[.bool false] 4) := ⟨_, rfl⟩
  have b1 : Below w.heap.size w W1 := by rw [hW1]; exact (Below.refl _ w).alloc (Nat.le_refl _) _
  have z1 : W1.heap.size = w.heap.size + 1 := by rw [hW1]; simp
  have HB := hid (And.intro b1 z1)
  have HW := hid hW1
  have h0 : W1.heap[w.heap.size]? = some (.cells #[.bool false] 4 (0, 0)) := by rw [hW1]; exact heap_alloc_new w _
  have HR := hid (hr.below b1)
  have H0 := hid h0
  have HL := hid hlen
  clear hr b1 hlen h0 z1
  refine (callsIn_wide (n := 8)).1 ?_
  refine callsIn_of_wp_marks Tryd.func39 rfl trivial (wpIn_wide.2 ?_) rfl
  simp only [Tryd.ntmps39, List.size_toArray, List.length_cons, List.length_nil, Nat.reduceAdd, Nat.reduceSub, Array.replicate_succ, Array.replicate_zero, List.push_toArray, List.append_toArray, List.nil_append, List.cons_append]
  go_wp2
  rw [← hW1]
  clear hW1
  go_loopw [3, 10] (fun sv iv wr => ∃ i : Nat, iv = .int .i64 (i : Int) ∧ Hid (i ≤ l.length) ∧ Hid (KInt.Own wr W1.heap.size sv ((l.take i).map (·.seq)) ∧ Below W1.heap.size W1 wr)) (fun _ iv _ => l.length - (intOf iv).toNat)
  case atStart => exact ⟨0, rfl, hid (Nat.zero_le _), hid ⟨Kd.Own.nil _ _, Below.refl _ _⟩⟩
  case round =>
    obtain ⟨i, rfl, hi, HJ⟩ := hrel
    by_cases hil : i < l.length
    · have hii : (i : Int) < (l.length : Int) := by omega
      obtain ⟨bR, offR, cR, hvR, hltR, hcs⟩ := (HR.out.below HJ.out.2).ats hil
      injection hvR with hv1 _ hv2
      subst hv1
      subst hv2
      have d0 : wr.cell? ⟨bR, offR + i * 3, none⟩ = some (.int .i64 l[i].seq) := hcs i hil 0 _ (by decide) rfl
      have d1 : wr.cell? ⟨bR, offR + i * 3 + 1, none⟩ = some (.int .i64 l[i].time) := hcs i hil 1 _ (by decide) rfl
      have d2 : wr.cell? ⟨bR, offR + i * 3 + 2, none⟩ = some (.string ⟨l[i].line.toArray⟩) := hcs i hil 2 _ (by decide) rfl
      have hl0 := HL.out
      have zi : IntKind.i64.wrap ((i : Int) + 1) = (i : Int) + 1 := by rw [IntKind.wrap_i64]; omega
      have hts : (l.take (i + 1)).map (·.seq) = (l.take i).map (·.seq) ++ [l[i].seq] := by rw [List.take_succ_eq_append_getElem hil, List.map_append]; rfl
      have HT := hid (And.intro hts hil)
      have htl : ((l.take i).map (·.seq)).length = i := by rw [List.length_map, List.length_take]; omega
      have hmm : ((l.take i).map (·.seq)).length + [l[i].seq].length ≤ maxLen := by rw [htl]; unfold maxLen; simp; omega
      have hml : (((l.take i).map (·.seq)).length + [l[i].seq].length) * 8 ≤ 140737488355328 := by rw [htl]; simp; omega
      have HO := HJ.out
      have hws := HO.2.size
      generalize l[i] = x at *
      clear hcs hts htl hl0 hil hi HJ
      generalize (l.take i).map (·.seq) = P at *
      obtain ⟨A3, c3, hv3, _⟩ := HO.1.rd.form
      subst hv3
      have hRd := (Kd.Own.lit (K := KInt) (B := wr.heap.size) (wr.alloc (.cells #[.int .i64 x.seq, .int .i64 x.time, .string ⟨x.line.toArray⟩] 45)) [x.seq] (by show 1 ≤ maxLen; decide) (by rw [World.size_alloc]; omega)).rd
      rw [World.size_alloc] at hRd
      have hOw := (HO.1.alloc (.cells #[.int .i64 x.seq, .int .i64 x.time, .string ⟨x.line.toArray⟩] 45)).alloc (.cells #[.int .i64 x.seq] 3)
      have hBz : W1.heap.size ≤ ((wr.alloc (.cells #[.int .i64 x.seq, .int .i64 x.time, .string ⟨x.line.toArray⟩] 45)).alloc (.cells #[.int .i64 x.seq] 3)).heap.size := by rw [World.size_alloc, World.size_alloc]; omega
      go_wp2_with (at_builtin; refine Kd.wp_app (K := KInt) rfl (.tmp 14) (.tmp 17) 105 rfl Tryd.underlying105 infoI rfl W1.heap.size _ _ P [x.seq] rfl hOw rfl hRd hmm hml hBz ?_; intro v1 w4 o1 b4 g1 n1)
      go_roundw
      case rel => exact ⟨i + 1, by go_num, hid HT.out.2, hid ⟨by rw [HT.out.1]; exact o1, (HO.2.trans (((Below.refl W1.heap.size wr).alloc hws _).alloc (by rw [World.size_alloc]; omega) _)).trans b4⟩⟩
      case measure => have := HT.out.2; simp [intOf]; omega
    · have hii : ¬ (i : Int) < (l.length : Int) := by omega
      have he : l.take i = l := List.take_of_length_le (by omega)
      have HO := HJ.out
      rw [he] at HO
      have hlm : (l.map (·.seq)).length < 4611686018427387904 := by have := HL.out; simp; omega
      have hS := Sort_is HO.1 hlm
      have HJ2 := hid HO.2
      have HN := once_sorted (l.map (·.seq))
      have hsl : ((l.map (·.seq)).mergeSort fun x y => decide (x ≤ y)).length ≤ 4611686018427387904 := by rw [List.length_mergeSort]; omega
      generalize ((l.map (·.seq)).mergeSort fun x y => decide (x ≤ y)) = S at *
      have HNN := hid HN
      have HSL := hid hsl
      clear HO HN he hlm hi HJ hii hsl
      go_upto_region 8 with (first | (go_at_call 62; refine hS.mono ?_; rintro e w2 ⟨rfl, o2, b2⟩; obtain ⟨A2, c2, hv2, _⟩ := o2.rd.form; subst hv2; have O2 := hid (And.intro o2 b2); clear o2 b2 hS))
      go_wp2_with (first | (go_at_call 63; refine (pairsI_is _ _ _ _).mono ?_; rintro e w3 ⟨rfl, hw3⟩))
      have z2 := O2.out.2.size
      have b12 := HJ2.out.trans O2.out.2
      have b3 : Below w2.heap.size w2 w3 := by rw [hw3]; exact (Below.refl _ w2).alloc (Nat.le_refl _) _
      have b13 := b12.trans (b3.mono b12.size)
      have z3 : w3.heap.size = w2.heap.size + 1 := by rw [hw3]; simp
      have hsb : w3.cell? ⟨w2.heap.size, 0, none⟩ = some (.slice A2 S.length c2) := by rw [hw3]; exact held_cell (i := 0) (heap_alloc_new w2 _) rfl
      have hrd : KInt.Rd w3 (.slice A2 S.length c2) S := (O2.out.1.below b3).rd
      have hseq := pairsI1_gives w3 w2.heap.size (.slice A2 S.length c2) S hsb (by omega) hrd HSL.out
      have hz := HB.out.2
      have zz := b13.size
      have hr3 : w3.heap[w.heap.size]? = some (.cells #[.bool false] 4 (0, 0)) := (b13.block _ (by omega)).trans H0.out
      rw [← hw3]
      clear hw3 hsb hrd b3 b12
      obtain ⟨I, hI0⟩ : ∃ I : List (Int × Int) → World → Prop, I = (fun pre Wi => ((pre.all fun p => p.1 != p.2) = true ∧ Wi.heap[w.heap.size]? = some (.cells #[.bool false] 4 (0, 0)) ∧ Below W1.heap.size W1 Wi)) := ⟨_, rfl⟩
      obtain ⟨R, hR0⟩ : ∃ R : World → Prop, R = (fun Wi => (((prs S 0).all fun p => p.1 != p.2) = false ∧ Wi.heap[w.heap.size]? = some (.cells #[.bool false] 4 (0, 0)) ∧ Below W1.heap.size W1 Wi)) := ⟨_, rfl⟩
      have HI0 := hid hI0
      have HR0 := hid hR0
      clear hI0 hR0
      refine (wpIn_wide (n := 7)).1 (wp_rangeFuncG (ps := #[24, 25]) (gf := 79) (lb := #[.pointer (some ⟨w2.heap.size, 0, none⟩)]) rfl (enters_of Tryd.func79 (by kernel_rfl) rfl) (fun _ => rfl) hseq
        I
        R
        (fun s a b h t => by rw [HI0.out] at h ⊢; exact ⟨h.1, t.row h.2.1 (by omega), Tch.below h.2.2 t (fun j hj => by omega) h.2.2.size⟩)
        (fun a b h t => by rw [HR0.out] at h ⊢; exact ⟨h.1, t.row h.2.1 (by omega), Tch.below h.2.2 t (fun j hj => by omega) h.2.2.size⟩)
        (by rw [HI0.out]; exact ⟨rfl, hr3, b13⟩)
        (fun x b => { tmps := #[.slice A l.length c, undef, .pointer (some ⟨w.heap.size, 0, none⟩), .slice A2 S.length c2, undef, u5, .int .i64 x.1, .int .i64 x.2, .slice A l.length c, .int .i64 (l.length : Int), .int .i64 (i : Int), .bool false, u12, u13, u14, u15, u16, u17, u18, u19, .slice A2 S.length c2, .tuple #[], .slice A2 S.length c2, .func (.func 79) #[] #[.pointer (some ⟨w2.heap.size, 0, none⟩)], .int .i64 x.1, .int .i64 x.2, undef, undef, undef], defers := [] })
        (fun _ W => W) (fun _ W => Below.refl _ W) ?assign ?body ?done ?stop)
      case assign =>
        intro l x Wi K _ hK
        unfold intV
        gi_wp2
        exact hK
      case body =>
        rintro l pre x rest b W0 Wi hx hb1 hb2 hbs hrows hI
        rw [HI0.out] at hI
        obtain ⟨h1, h2, h3⟩ := hI
        have f0 : Wi.cell? ⟨w.heap.size, 0, none⟩ = some (.bool false) := held_cell h2 rfl
        have f1 : Wi.frozen? ⟨w.heap.size, 0, none⟩ = false := held_frozen h2
        have hsame := setCell_same h2
        have HP := hid h1
        have HQ := hid (And.intro h2 h3)
        have HX := hid hx
        clear h1 h2 h3 hx hrows hbs hseq hr3 b13
        by_cases hxx : x.1 = x.2
        · have hq : ((prs S 0).all fun p => p.1 != p.2) = false := by rw [HX.out]; simp [hxx]
          have HQ2 := hid hq
          have d : (x.1 == x.2) = true := by simp [hxx]
          have RX : R Wi := by rw [HR0.out]; exact ⟨hq, HQ.out⟩
          clear hq hxx
          gi_wp2
          exact ⟨Kept.refl _ _, RX⟩
        · have d : (x.1 == x.2) = false := by simp [hxx]
          have HX2 := hid hxx
          have IX : I (pre ++ [x]) Wi := by rw [HI0.out]; exact ⟨by rw [List.all_append, HP.out]; simp [hxx], HQ.out⟩
          clear hxx
          gi_wp2
          exact ⟨Kept.refl _ _, IX⟩
      case done =>
        rintro D Wi hD hI hK
        rw [HI0.out] at hI
        obtain ⟨h1, h2, h3⟩ := hI
        have f0 : Wi.cell? ⟨w.heap.size, 0, none⟩ = some (.bool false) := held_cell h2 rfl
        have f1 : Wi.frozen? ⟨w.heap.size, 0, none⟩ = false := held_frozen h2
        have hK2 : (Wi.setCell ⟨w.heap.size, 0, none⟩ (.bool true)).heap[D]? = some (.deferred (some [])) := (Below.heap_setCell Wi ⟨w.heap.size, 0, none⟩ (.bool true) D (by show D ≠ w.heap.size; omega)).trans hK
        have hfin : ((Wi.setCell ⟨w.heap.size, 0, none⟩ (.bool true)).putObj D (.deferred none)).heap[w.heap.size]? = some (.cells #[.bool true] 4 (0, 0)) := (World.putObj_heap_other (by omega)).trans (row_set h2 (.bool true))
        have hbel : Below w.heap.size w ((Wi.setCell ⟨w.heap.size, 0, none⟩ (.bool true)).putObj D (.deferred none)) :=
          (HB.out.1.trans (h3.mono HB.out.1.size)).trans (((Tch.set (fun k => w.heap.size ≤ k) Wi ⟨w.heap.size, 0, none⟩ (.bool true) (Nat.le_refl _)).trans (tch_putObj _ (show w.heap.size ≤ D by omega))).to_below (fun _ h => h) (by have := h3.size; omega))
        have HH := hid (And.intro hfin hbel)
        have H1 := hid h1
        clear h1 h2 h3 hseq hr3 b13 hfin hbel
        unfold markD
        go_wp2
        refine ⟨by simp, .inl ⟨_, _, rfl, run_takeDeferred hK2, ?_⟩⟩
        exact ⟨_, results_cell_bool rfl _ _ w.heap.size true rfl HH.out.1, by rw [← HNN.out, H1.out], HH.out.2⟩
      case stop =>
        rintro D Wi hD hI hK
        rw [HR0.out] at hI
        obtain ⟨h1, h2, h3⟩ := hI
        have hfin : (Wi.putObj D (.deferred none)).heap[w.heap.size]? = some (.cells #[.bool false] 4 (0, 0)) := (World.putObj_heap_other (by omega)).trans h2
        have hbel : Below w.heap.size w (Wi.putObj D (.deferred none)) :=
          (HB.out.1.trans (h3.mono HB.out.1.size)).trans ((tch_putObj (S := fun k => w.heap.size ≤ k) _ (show w.heap.size ≤ D by omega)).to_below (fun _ h => h) (by have := h3.size; omega))
        have HH := hid (And.intro hfin hbel)
        have H1 := hid h1
        clear h1 h2 h3 hseq hr3 b13 hfin hbel
        unfold markD
        go_wp2
        refine ⟨by simp, .inl ⟨_, _, rfl, run_takeDeferred hK, ?_⟩⟩
        exact ⟨_, results_cell_bool rfl _ _ w.heap.size false rfl HH.out.1, by rw [← HNN.out, H1.out], HH.out.2⟩
end Go.Proofs.YtaoeabnpmpimgaaDoor
