/-
  Entries in rows, each with labels somewhere: read, owned, appended; labels cloned. Conditions: those that each theorem names.
  chunk.Between: the entries of a chunk of some times. Conditions: those that each theorem names.
-/
import Derived.Test.YtogahjeeglnogaaDoorHpw
import Derived.Test.YtogahjeeglnogaaDoorEntSames
import Derived.Test.YtogahjeeglnogaaDoorEntAll
import Derived.Deep.RegionHeld3
section
namespace Go.Icz
open Go.RowKit
/-- An entry, and where its labels lie. -/
abbrev EV := Ent × Option Addr × Nat
abbrev lbV (p : EV) : Value := .slice p.2.1 p.1.labs.length p.2.2
abbrev evV (p : EV) : Value := entV p.1 p.2.1 p.2.2
def KEv : Kd EV where
  e := 55
  z := 4
  enc := fun p => [.int .i64 p.1.seq, .int .i64 p.1.time, .slice p.2.1 p.1.labs.length p.2.2, .string ⟨p.1.line.toArray⟩]
  len := fun _ => rfl
  pos := by decide
  one := by
    intro x u hu
    simp only [List.mem_cons, List.not_mem_nil, or_false] at hu
    rcases hu with rfl | rfl | rfl | rfl <;> rfl
/-- The slice v reads as the entries l. -/
def RdQ (w : World) (v : Value) (l : List EV) : Prop := KEv.Rd w v l ∧ ∀ x ∈ l, RdL w (lbV x) x.1.labs
/-- The slice v, of the call's own memory, holds the entries l, with labels of their own. -/
def OwQ (w : World) (B : Nat) (v : Value) (l : List EV) : Prop := KEv.Own w B v l ∧ ∀ x ∈ l, OwnL w B (lbV x) x.1.labs
theorem RdQ.below {w w' : World} {v : Value} {l : List EV} (h : RdQ w v l) (hb : Below w.heap.size w w') : RdQ w' v l := ⟨h.1.below hb, fun x hx => (h.2 x hx).below hb⟩
theorem OwQ.below {w w' : World} {B : Nat} {v : Value} {l : List EV} (h : OwQ w B v l) (hb : Below w.heap.size w w') : OwQ w' B v l := ⟨h.1.below hb, fun x hx => (h.2 x hx).below hb⟩
theorem OwQ.mono {w : World} {B B' : Nat} {v : Value} {l : List EV} (h : OwQ w B v l) (hB : B' ≤ B) : OwQ w B' v l := ⟨h.1.mono hB, fun x hx => (h.2 x hx).mono hB⟩
theorem OwQ.rd {w : World} {B : Nat} {v : Value} {l : List EV} (h : OwQ w B v l) : RdQ w v l := ⟨h.1.rd, fun x hx => (h.2 x hx).rd⟩
theorem OwQ.nil (w : World) (B : Nat) : OwQ w B (.slice none 0 0) [] := ⟨Kd.Own.nil w B, by simp⟩
theorem RdQ.rde {w : World} {v : Value} {l : List EV} (h : RdQ w v l) : RdE w v (l.map (·.1)) := by
  obtain ⟨⟨A, c, rfl, hc, hr⟩, hl⟩ := h
  refine ⟨A, c, by rw [List.length_map], by rw [List.length_map]; exact hc, fun h0 => ?_⟩
  rw [List.length_map] at h0
  obtain ⟨b, off, rfl, hlt, hcell⟩ := hr h0
  refine ⟨b, off, rfl, hlt, fun j hj => ?_⟩
  rw [List.length_map] at hj
  have g := fun i u (hi : i < 4) (hu : (KEv.enc l[j])[i]? = some u) => hcell (j * 4 + i) u ((Kd.cells_get (K := KEv) l j hj i hi).trans hu)
  simp only [List.getElem_map]
  refine ⟨l[j].2.1, l[j].2.2, ?_, ?_, ?_, ?_, hl _ (List.getElem_mem hj)⟩
  · exact g 0 _ (by decide) rfl
  · rw [Nat.add_assoc]; exact g 1 _ (by decide) rfl
  · rw [Nat.add_assoc]; exact g 2 _ (by decide) rfl
  · rw [Nat.add_assoc]; exact g 3 _ (by decide) rfl
/-- Entries more, behind those of a row of the call's own. -/
theorem OwQ.more {w w' : World} {B : Nat} {v v' : Value} {m n : List EV} (h : OwQ w B v m) (hn : ∀ x ∈ n, OwnL w B (lbV x) x.1.labs) (ho : KEv.Own w' B v' (m ++ n)) (hg : w.grownBy w' v.ownBlock) : OwQ w' B v' (m ++ n) := by
  refine ⟨ho, fun q hq => ?_⟩
  rcases List.mem_append.1 hq with hq | hq
  · exact OwnL.apart (h.2 q hq) h.1 hg
  · exact OwnL.apart (hn q hq) h.1 hg
end Go.Icz
namespace Go.Proofs.YtogahjeeglnogaaDoor
open Go.RowKit Go.Icz
theorem infoEv : (Tryd.prog.info? 55).map (fun i => (i.zero, i.size, i.bytes)) = some (some (.agg #[.int .i64 0, .int .i64 0, .slice none 0 0, .string ⟨#[]⟩]), 4, 56) := by kernel_rfl
/-- It answers labels of its own. -/
def LabOut (l : List Lab) (w : World) (e : Ending) (w' : World) : Prop := ∃ A c, e = .returned (.slice A l.length c) ∧ OwnL w' w.heap.size (.slice A l.length c) l ∧ Below w.heap.size w w'
set_option maxHeartbeats 4000000 in
set_option maxRecDepth 100000 in
theorem CloneL_is (v : Value) (l : List Lab) (w : World) (hR : RdL w v l) (hlen : l.length * 32 ≤ 140737488355328) :
    Calls Tryd.prog 22 #[v] w (LabOut l w) := by
  have hR' := hR
  obtain ⟨A, c, rfl, hlc, hcell⟩ := hR'
  have q22 : ∀ (w : World) (a : Option Addr) (n c n' c' : Nat), (binOp .eql 22 (.slice a n c) (.slice none n' c')).run Tryd.prog w = .ok (.bool a.isNone) w := fun w a n c n' c' => Lib.run_eql_slice_nil w _ _ a n c n' c' Tryd.underlying22
  rcases A with _ | ad
  · have hl : l = [] := by
      rcases Nat.eq_zero_or_pos l.length with h0 | h0
      · exact List.eq_nil_of_length_eq_zero h0
      · obtain ⟨b, off, e, _⟩ := hcell h0
        cases e
    subst hl
    clear hcell hR
    go_enter Tryd.func22, Tryd.ntmps22
    go_wp2
    go_ret
    exact ⟨none, 0, rfl, OwnL.nil _ _, Below.refl _ _⟩
  · clear hcell
    have hR2 := fun o => hR.alloc o
    go_enter Tryd.func22, Tryd.ntmps22
    go_wp2_with (at_builtin; refine wp_appL rfl (.tmp 5) (.tmp 6) rfl w.heap.size _ _ [] l rfl (OwnL.made w (Nat.le_refl _)) rfl (hR2 _) (by simpa using hlen) (by simp) ?_; intro v' w1 hown hb hn)
    have hown' : OwnL w1 w.heap.size v' l := by simpa using hown
    obtain ⟨A', c', rfl, _⟩ := hown'.rd
    go_ret
    exact ⟨A', c', rfl, hown', below_allocT (Nat.le_refl _) hb⟩
end Go.Proofs.YtogahjeeglnogaaDoor
end
section
namespace Go.Icz
open Go.RowKit
def inT (fr til : Int) (x : CRow) : Bool := decide (fr ≤ x.time) && decide (x.time < til)
/-- The chunk's entries of a time from fr on, below til. -/
def betC (labs : List Lab) (rows : List CRow) (fr til : Int) : List Ent := if chR labs rows = true then (rows.filter (inT fr til)).map (entC labs) else []
end Go.Icz
namespace Go.Proofs.YtogahjeeglnogaaDoor
open Go.RowKit Go.Icz Go.Shelf
attribute [local go_sem] Oper.semAt_some
set_option maxRecDepth 100000
set_option maxHeartbeats 4000000
/-- It answers these entries, in memory of their own. -/
def BetOut (l : List Ent) (w : World) (e : Ending) (w' : World) : Prop := ∃ v m, e = .returned v ∧ OwQ w' w.heap.size v m ∧ m.map (·.1) = l ∧ Below w.heap.size w w'
theorem Between_no (labs : List Lab) (rows : List CRow) (A A2 : Option Addr) (C C2 : Nat) (fr til : Int) (w : World) (hL : RdL w (.slice A labs.length C) labs) (hR : KRw.Rd w (.slice A2 rows.length C2) rows) (hT : Tabs w) (hz : ∀ x ∈ rows, entZ (entC labs x)) (hln : rows.length ≤ 4611686018427387904) (hf : chR labs rows = false) :
    Calls Tryd.prog 9 #[.agg #[.slice A labs.length C, .slice A2 rows.length C2], .int .i64 fr, .int .i64 til] w (BetOut (betC labs rows fr til) w) := by
  have b0 : Below w.heap.size w (w.alloc (.cells #[.slice A labs.length C, .slice A2 rows.length C2] 28)) := (Below.refl _ w).alloc (Nat.le_refl _) _
  have hr := CRight_is labs rows A A2 C C2 _ (hL.below b0) (hR.below b0) (hT.below b0) hz hln
  rw [hf] at hr
  have HB := hid b0
  have hv : betC labs rows fr til = [] := by unfold betC; rw [hf]; rfl
  rw [hv]
  clear hL hR hT hz hf b0 hln hv
  go_enter Tryd.func9, Tryd.ntmps9
  go_wp2_with (go_at_call 19; refine hr.mono ?_; rintro e w1 ⟨rfl, b1⟩; clear hr)
  go_ret
  exact ⟨_, [], rfl, OwQ.nil _ _, rfl, HB.out.trans (b1.mono HB.out.size)⟩
theorem Between_yes (labs : List Lab) (rows : List CRow) (A A2 : Option Addr) (C C2 : Nat) (fr til : Int) (w : World) (hL : RdL w (.slice A labs.length C) labs) (hR : KRw.Rd w (.slice A2 rows.length C2) rows) (hT : Tabs w) (hz : ∀ x ∈ rows, entZ (entC labs x)) (hln : rows.length ≤ 4611686018427387904) (hf : chR labs rows = true) :
    Calls Tryd.prog 9 #[.agg #[.slice A labs.length C, .slice A2 rows.length C2], .int .i64 fr, .int .i64 til] w (BetOut (betC labs rows fr til) w) := by
  obtain ⟨W0, hW0⟩ : ∃ W0, W0 = w.alloc (.cells #[.slice A labs.length C, .slice A2 rows.length C2] 28) := ⟨_, rfl⟩
  have b0 : Below w.heap.size w W0 := by rw [hW0]; exact (Below.refl _ w).alloc (Nat.le_refl _) _
  have z0 : W0.heap.size = w.heap.size + 1 := by rw [hW0]; simp
  have x0 : W0.heap[w.heap.size]? = some (.cells #[.slice A labs.length C, .slice A2 rows.length C2] 28 (0, 0)) := by rw [hW0]; exact heap_alloc_new w _
  have hr := CRight_is labs rows A A2 C C2 _ (hL.below b0) (hR.below b0) (hT.below b0) hz hln
  rw [hf] at hr
  have hf2 := hf
  unfold chR at hf2
  simp only [Bool.and_eq_true, decide_eq_true_eq] at hf2
  obtain ⟨⟨⟨⟨n1, n2⟩, -⟩, -⟩, _⟩ := hf2
  have hv : Hid (betC labs rows fr til = (rows.filter (inT fr til)).map (entC labs)) := hid (by unfold betC; rw [hf, if_pos rfl])
  have hlz : labs.length * 32 ≤ 140737488355328 := by
    have := (hz rows[0] (List.getElem_mem (by omega))).1
    unfold entC at this
    simp only at this
    omega
  have cells : ∀ wx, Below W0.heap.size W0 wx → wx.cell? ⟨w.heap.size, 0, none⟩ = some (.slice A labs.length C) ∧ wx.cell? ⟨w.heap.size, 1, none⟩ = some (.slice A2 rows.length C2) := fun wx b => by
    have y := (b.block w.heap.size (row_lt x0)).trans x0
    exact ⟨held_cell y rfl, held_cell y rfl⟩
  obtain ⟨bR, offR, cR, hvR, hltR, hcs1⟩ := hR.ats (j := 0) (by omega)
  injection hvR with hv1 _ hv2
  subst hv1
  subst hv2
  have row : ∀ wx, Below W0.heap.size W0 wx → ∀ j (hj : j < rows.length), wx.cell? ⟨bR, offR + j * 3, none⟩ = some (.int .i64 rows[j].seq) ∧ wx.cell? ⟨bR, offR + j * 3 + 1, none⟩ = some (.int .i64 rows[j].time) ∧ wx.cell? ⟨bR, offR + j * 3 + 2, none⟩ = some (.string ⟨rows[j].line.toArray⟩) := fun wx b j hj => by
    have bb := b0.trans (b.mono b0.size)
    have q0 := hcs1 j hj 0 _ (by decide) rfl
    have q1 := hcs1 j hj 1 _ (by decide) rfl
    have q2 := hcs1 j hj 2 _ (by decide) rfl
    exact ⟨(bb.cell (p := ⟨bR, offR + j * 3, none⟩) hltR).trans q0, (bb.cell (p := ⟨bR, offR + j * 3 + 1, none⟩) hltR).trans q1, (bb.cell (p := ⟨bR, offR + j * 3 + 2, none⟩) hltR).trans q2⟩
  have hCl := fun wx (b : Below W0.heap.size W0 wx) => CloneL_is _ labs wx (hL.below (b0.trans (b.mono b0.size))) hlz
  unfold LabOut at hCl
  have HB0 := hid (And.intro b0 z0)
  have HX0 := hid x0
  have HCL := hid hCl
  have HCE := hid cells
  have HROW := hid row
  have HN := hid (And.intro n1 n2)
  have d2 : (rows.length : Int) ≤ 1000 := by omega
  rw [hW0] at hr
  clear hL hR hT hz hf hln x0 n1 n2 cells hcs1 row b0 hltR hCl hlz z0
  go_enter Tryd.func9, Tryd.ntmps9
  have e0 := HCE.out W0 (Below.refl _ _)
  rw [hW0] at e0
  obtain ⟨e1, e2⟩ := e0
  go_wp2_with (go_at_call 19; refine hr.mono ?_; rintro e w1 ⟨rfl, b1⟩; clear hr; rw [← hW0] at b1; obtain ⟨e3, e4⟩ := HCE.out w1 b1; clear e1 e2)
  have HB1 := hid b1
  clear b1 e3 hW0
  go_loopw [7, 16] (fun ov iv wr => ∃ (i : Nat) (m : List EV), iv = .int .i64 (i : Int) ∧ Hid (i ≤ rows.length ∧ m.length ≤ i) ∧ Hid (OwQ wr W0.heap.size ov m) ∧ Hid (m.map (·.1) = ((rows.take i).filter (inT fr til)).map (entC labs)) ∧ Hid (Below W0.heap.size W0 wr)) (fun _ iv _ => rows.length - (intOf iv).toNat)
  case atStart => exact ⟨0, [], rfl, hid ⟨Nat.zero_le _, Nat.le_refl _⟩, hid (OwQ.nil _ _), hid rfl, HB1⟩
  case round =>
    obtain ⟨i, m, rfl, hi, HO, HM, HW⟩ := hrel
    by_cases hil : i < rows.length
    · have hii : (i : Int) < (rows.length : Int) := by omega
      obtain ⟨c0, c1, c2⟩ := HROW.out wr HW.out i hil
      have hta : (rows.take (i + 1)).filter (inT fr til) = (rows.take i).filter (inT fr til) ++ (if inT fr til rows[i] = true then [rows[i]] else []) := by
        rw [List.take_succ_eq_append_getElem hil, List.filter_append]
        congr 1
        rw [List.filter_cons]
        split <;> rfl
      have HT := hid (And.intro hil hta)
      generalize rows[i] = x at *
      have HWa : Hid (Below W0.heap.size W0 (wr.alloc (.cells #[.int .i64 x.seq, .int .i64 x.time, .string ⟨x.line.toArray⟩] 47))) := hid (HW.out.trans ((Below.refl _ wr).alloc HW.out.size _))
      have hi2 : (i : Int) + 1 ≤ 1000 := by omega
      by_cases k1 : fr ≤ x.time
      · by_cases k2 : x.time < til
        · have HIn : Hid (inT fr til x = true) := hid (by unfold inT; simp [k1, k2])
          have hnew := heap_alloc_new wr (.cells #[.int .i64 x.seq, .int .i64 x.time, .string ⟨x.line.toArray⟩] 47)
          have hwz := HW.out.size
          obtain ⟨Wa, hWa⟩ : ∃ Wa, Wa = wr.alloc (.cells #[.int .i64 x.seq, .int .i64 x.time, .string ⟨x.line.toArray⟩] 47) := ⟨_, rfl⟩
          have zA : Wa.heap.size = wr.heap.size + 1 := by rw [hWa]; simp
          rw [← hWa] at hnew HWa
          have bA : Below wr.heap.size wr Wa := by rw [hWa]; exact (Below.refl _ wr).alloc (Nat.le_refl _) _
          have hlt : ∀ j, some j = u7.ownBlock → W0.heap.size ≤ j ∧ j < wr.heap.size := fun j h => HO.out.1.lt j h.symm
          have hbx : Wa.heap[w.heap.size]? = some (.cells #[.slice A labs.length C, .slice (some ⟨bR, offR, none⟩) rows.length C2] 28 (0, 0)) := (HWa.out.block _ (row_lt HX0.out)).trans HX0.out
          have zB := HB0.out.2
          have mkS : ∀ wx : World, Below W0.heap.size Wa wx → (∀ j, j < Wa.heap.size → some j ≠ u7.ownBlock → wx.heap[j]? = Wa.heap[j]?) → (Below W0.heap.size Wa wx ∧ ∀ j, j < Wa.heap.size → some j ≠ u7.ownBlock → wx.heap[j]? = Wa.heap[j]?) ∧ wx.cell? ⟨w.heap.size, 0, none⟩ = some (.slice A labs.length C) ∧ wx.cell? ⟨wr.heap.size, 0, none⟩ = some (.int .i64 x.seq) ∧ wx.cell? ⟨wr.heap.size, 1, none⟩ = some (.int .i64 x.time) ∧ wx.cell? ⟨wr.heap.size, 2, none⟩ = some (.string ⟨x.line.toArray⟩) := fun wx hb hj => by
            have y1 := (hj w.heap.size (by omega) (fun e => by have := (hlt _ e).1; omega)).trans hbx
            have y2 := (hj wr.heap.size (by omega) (fun e => by have := (hlt _ e).2; omega)).trans hnew
            exact ⟨⟨hb, hj⟩, held_cell y1 rfl, held_cell y2 rfl, held_cell y2 rfl, held_cell y2 rfl⟩
          have hk := mkS Wa.drew (Below.refl _ _).drew (fun _ _ _ => rfl)
          have hEn := fun A3 c3 wx => entry_is labs A3 labs.length c3 x wx rfl
          unfold rowV entV entC at hEn
          simp only at hEn
          have zWa := HWa.out.size
          have hcl := fun wx (b : Below W0.heap.size Wa wx) => HCL.out wx (HWa.out.trans b)
          have HOA := hid (HO.out.below bA)
          have BD := hid ((Below.refl Wa.heap.size Wa).drew)
          have hml : m.length + 1 ≤ 1001 := by have := hi.out.2; omega
          have HmkS := hid mkS
          clear hbx hnew mkS zB hlt hwz bA
          go_wp2_with fail
          rw [← hWa]
          clear hWa
          go_region_held3 (fun wx => (Below W0.heap.size Wa wx ∧ ∀ j, j < Wa.heap.size → some j ≠ u7.ownBlock → wx.heap[j]? = Wa.heap[j]?) ∧ wx.cell? ⟨w.heap.size, 0, none⟩ = some (.slice A labs.length C) ∧ wx.cell? ⟨wr.heap.size, 0, none⟩ = some (.int .i64 x.seq) ∧ wx.cell? ⟨wr.heap.size, 1, none⟩ = some (.int .i64 x.time) ∧ wx.cell? ⟨wr.heap.size, 2, none⟩ = some (.string ⟨x.line.toArray⟩)) (first | exact hk | exact HmkS.out _ (hk.1.1.alloc (Nat.le_trans zWa hk.1.1.size) _) (fun j h1 h2 => (heap_alloc_old _ _ (by have := hz4; omega)).trans (hk.1.2 j h1 h2)))
            (first
              | (go_at_call 22; refine (hcl _ hk.1.1).mono ?_; rintro e w3 ⟨A3, c3, rfl, o3, b3⟩; have B3 : Below Wa.heap.size Wa w3 := BD.out.trans b3; have hk := HmkS.out w3 (B3.mono zWa) (fun j h1 _ => B3.block j h1); clear hcl b3)
              | (go_at_call 21; refine (hEn _ _ _).mono ?_; rintro e w4 ⟨rfl, b4⟩; have B4 : Below Wa.heap.size Wa w4 := B3.trans (b4.mono B3.size); have o4 := o3.below b4; have hz4 : Wa.heap.size ≤ w4.heap.size := B4.size; have own4 := HOA.out.below B4; have hk := HmkS.out w4 (B4.mono zWa) (fun j h1 _ => B4.block j h1); clear hEn b4 o3 B3)
              | (refine Kd.step_app1 (K := KEv) rfl (.tmp 30) (.tmp 36) 33 rfl Tryd.underlying33 infoEv rfl W0.heap.size u7 m (entC labs x, A3, c3) (by simp [Act.eval]) (own4.1.alloc _) w4.heap.size (heap_alloc_new w4 _) (by simp [Act.eval]) (by unfold maxLen; omega) (by omega) (by simp; omega) ?_; intro v5 w5 q5 b5 g5; have hk := HmkS.out w5 ((B4.mono zWa).trans (below_allocT (by omega) b5)) (fun j h1 h2 => (g5.block j (by simp; omega) h2).trans ((heap_alloc_old _ _ (by omega)).trans (B4.block j h1)))))
          all_goals
            go_wp2_with fail
            go_roundw
            case rel =>
              have oA := own4.below ((Below.refl w4.heap.size w4).alloc (Nat.le_refl _) (.cells (KEv.enc (entC labs x, A3, c3)).toArray 55))
              have oL := o4.below ((Below.refl w4.heap.size w4).alloc (Nat.le_refl _) (.cells (KEv.enc (entC labs x, A3, c3)).toArray 55))
              refine ⟨i + 1, m ++ [(entC labs x, A3, c3)], by go_num, hid ⟨HT.out.1, by have := hi.out.2; simp; omega⟩, hid (OwQ.more oA (fun q hq => ?_) q5 g5), hid ?_, hid (HWa.out.trans hk.1.1)⟩
              · obtain rfl := List.mem_singleton.1 hq
                exact oL.mono (by simp; omega)
              · rw [List.map_append, HM.out, HT.out.2, HIn.out, if_pos rfl, List.map_append]
                rfl
            case measure => have := HT.out.1; simp [intOf]; omega
        · have HIn : Hid (inT fr til x = false) := hid (by unfold inT; simp [k2])
          have bA : Below wr.heap.size wr (wr.alloc (.cells #[.int .i64 x.seq, .int .i64 x.time, .string ⟨x.line.toArray⟩] 47)) := (Below.refl _ wr).alloc (Nat.le_refl _) _
          have HOA := hid (HO.out.below bA)
          clear bA
          go_wp2_with fail
          go_roundw
          case rel => exact ⟨i + 1, m, by go_num, hid ⟨HT.out.1, by have := hi.out.2; omega⟩, HOA, hid (by rw [HM.out, HT.out.2, HIn.out]; simp), HWa⟩
          case measure => have := HT.out.1; simp [intOf]; omega
      · have HIn : Hid (inT fr til x = false) := hid (by unfold inT; simp [k1])
        have bA : Below wr.heap.size wr (wr.alloc (.cells #[.int .i64 x.seq, .int .i64 x.time, .string ⟨x.line.toArray⟩] 47)) := (Below.refl _ wr).alloc (Nat.le_refl _) _
        have HOA := hid (HO.out.below bA)
        clear bA
        go_wp2_with fail
        go_roundw
        case rel => exact ⟨i + 1, m, by go_num, hid ⟨HT.out.1, by have := hi.out.2; omega⟩, HOA, hid (by rw [HM.out, HT.out.2, HIn.out]; simp), HWa⟩
        case measure => have := HT.out.1; simp [intOf]; omega
    · have he : rows.take i = rows := List.take_of_length_le (by omega)
      have hm2 := HM.out
      rw [he] at hm2
      have HM2 := hid hm2
      have hii : ¬ (i : Int) < (rows.length : Int) := by omega
      clear he hm2 hil
      go_wp2_with fail
      go_ret
      have zz := HB0.out
      exact ⟨_, m, rfl, HO.out.mono (by omega), by rw [hv.out]; exact HM2.out, HB0.out.1.trans (HW.out.mono (by omega))⟩
theorem Between_is (labs : List Lab) (rows : List CRow) (A A2 : Option Addr) (C C2 : Nat) (fr til : Int) (w : World) (hL : RdL w (.slice A labs.length C) labs) (hR : KRw.Rd w (.slice A2 rows.length C2) rows) (hT : Tabs w) (hz : ∀ x ∈ rows, entZ (entC labs x)) (hln : rows.length ≤ 4611686018427387904) :
    Calls Tryd.prog 9 #[.agg #[.slice A labs.length C, .slice A2 rows.length C2], .int .i64 fr, .int .i64 til] w (BetOut (betC labs rows fr til) w) := by
  cases hf : chR labs rows
  · exact Between_no labs rows A A2 C C2 fr til w hL hR hT hz hln hf
  · exact Between_yes labs rows A A2 C C2 fr til w hL hR hT hz hln hf
end Go.Proofs.YtogahjeeglnogaaDoor
end
