/-
  The heap of heads in memory: Less. Conditions: those that each theorem names.
-/
import Derived.Test.YtcffagfkpkfgbaaMgh
import Derived.Deep.DeepCutAuto
import Derived.Deep.RegionHeld3
namespace Go.Icz
open Go.RowKit
theorem cell_alloc {w : World} {p : Addr} {v : Value} (h : w.cell? p = some v) (o : Obj) : (w.alloc o).cell? p = some v :=
  (World.cell?_of_block (heap_alloc_old w o (World.block_lt_of_cell? w p h))).trans h
/-- Two boxes were made. -/
def Two (w : World) (o1 o2 : Obj) (a b : Value) (wx : World) : Prop := ∃ k1 k2, a = .pointer (some ⟨k1, 0, none⟩) ∧ b = .pointer (some ⟨k2, 0, none⟩) ∧ wx.heap[k1]? = some o1 ∧ wx.heap[k2]? = some o2 ∧ Below w.heap.size w wx
theorem two_ab (w : World) (o1 o2 : Obj) : Two w o1 o2 (.pointer (some ⟨w.heap.size, 0, none⟩)) (.pointer (some ⟨w.heap.size + 1, 0, none⟩)) ((w.alloc o1).alloc o2).drew := by
  have h2 := heap_alloc_new (w.alloc o1) o2
  rw [World.size_alloc] at h2
  exact ⟨_, _, rfl, rfl, (heap_alloc_old (w.alloc o1) o2 (by simp)).trans (heap_alloc_new w o1), h2, (((Below.refl _ w).alloc (Nat.le_refl _) _).alloc (by simp) _).drew⟩
theorem two_ba (w : World) (o1 o2 : Obj) : Two w o1 o2 (.pointer (some ⟨w.heap.size + 1, 0, none⟩)) (.pointer (some ⟨w.heap.size, 0, none⟩)) ((w.alloc o2).alloc o1).drew := by
  have h2 := heap_alloc_new (w.alloc o2) o1
  rw [World.size_alloc] at h2
  exact ⟨_, _, rfl, rfl, h2, (heap_alloc_old (w.alloc o2) o1 (by simp)).trans (heap_alloc_new w o2), (((Below.refl _ w).alloc (Nat.le_refl _) _).alloc (by simp) _).drew⟩
end Go.Icz
namespace Go.Proofs.Ytcffagfkpkfgbaa
open Go.RowKit Go.Icz
set_option maxRecDepth 100000 in
set_option maxHeartbeats 4000000 in
theorem Less_is {W0 w : World} {q : Nat} {rs : List Value} {nb : Bool} {v : Value} {l : List HR} (h : Hp W0 w q rs nb v l) (i j : Nat) (hi : i < l.length) (hj : j < l.length) :
    Calls Try.prog 54 #[.pointer (some ⟨q, 0, none⟩), .int .i64 i, .int .i64 j] w fun e w' => e = .returned (.bool (hlt nb l[i] l[j])) ∧ Below w.heap.size w w' := by
  obtain ⟨g, cap, rfl, _, _, _, hx⟩ := h.own.block (by omega)
  clear hx
  have c0 := h.c0
  have c1 := h.c1
  have hq := h.lt
  obtain ⟨a0, a1, _, _⟩ := h.row hi
  obtain ⟨b0, b1, _, _⟩ := h.row hj
  obtain ⟨ba, oa, ha, hla, hna, hca⟩ := h.head (List.getElem_mem hi)
  obtain ⟨bb, ob, hb, hlb, hnb, hcb⟩ := h.head (List.getElem_mem hj)
  have hbel := h.bel
  have hF := fun x y w1 => first_is x y nb w1
  unfold hlt rlt
  generalize l[i] = ri at *
  generalize l[j] = rj at *
  obtain ⟨A, ca, la, pa⟩ := ri
  obtain ⟨A', cb, lb, pb⟩ := rj
  simp only at *
  subst ha hb
  have hiI : (i : Int) < (l.length : Int) := by omega
  have hjI : (j : Int) < (l.length : Int) := by omega
  clear h hi hj
  generalize l.length = n at *
  generalize hdE la = x at *
  generalize hdE lb = y at *
  have hF1 := hF x y
  have hF2 := hF y x
  clear hF
  unfold entV at hF1 hF2
  generalize frst kyV nb x y = r1 at *
  generalize frst kyV nb y x = r2 at *
  have hnaI : (0 : Int) < (la.length : Int) := by omega
  have hnbI : (0 : Int) < (lb.length : Int) := by omega
  go_enter Try.func54, Try.ntmps54
  have z1 := fun o => cell_alloc c0 o
  have z2 := fun o o2 => cell_alloc (cell_alloc c0 o) o2
  have y1 := fun o => cell_alloc a0 o
  have y2 := fun o o2 => cell_alloc (cell_alloc a0 o) o2
  have x1 := fun o => cell_alloc a1 o
  have x2 := fun o o2 => cell_alloc (cell_alloc a1 o) o2
  have v1 := fun o => cell_alloc b0 o
  have v2 := fun o o2 => cell_alloc (cell_alloc b0 o) o2
  have u1 := fun o => cell_alloc b1 o
  have u2 := fun o o2 => cell_alloc (cell_alloc b1 o) o2
  go_wp2
  go_cut [7, 8] (fun a b wx => Two w (.cells #[.slice (some ⟨ba, oa, none⟩) la.length ca, .int .i64 (pa : Int)] 58) (.cells #[.slice (some ⟨bb, ob, none⟩) lb.length cb, .int .i64 (pb : Int)] 58) a b wx)
  case first =>
    go_region
    all_goals (go_wp2_with fail; go_meet; first | exact two_ab _ _ _ | exact two_ba _ _ _)
  case rest =>
    obtain ⟨k1, k2, rfl, rfl, g1, g2, b2⟩ := hcut
    clear z1 z2 y1 y2 x1 x2 v1 v2 u1 u2 a0 a1 b0 b1
    have d1 := (b2.cell (p := ⟨q, 1, none⟩) hq).trans c1
    have bw := hbel.trans (b2.mono hbel.size)
    obtain ⟨e0, e1, e2, e3⟩ := hca _ bw
    obtain ⟨f0, f1, f2, f3⟩ := hcb _ bw
    have t0 := held_cell (i := 0) g1 rfl
    have t1 := held_cell (i := 0) g2 rfl
    have e0a := fun o => cell_alloc e0 o
    have e0b := fun o o2 => cell_alloc (cell_alloc e0 o) o2
    have e1a := fun o => cell_alloc e1 o
    have e1b := fun o o2 => cell_alloc (cell_alloc e1 o) o2
    have e2a := fun o => cell_alloc e2 o
    have e2b := fun o o2 => cell_alloc (cell_alloc e2 o) o2
    have e3a := fun o => cell_alloc e3 o
    have e3b := fun o o2 => cell_alloc (cell_alloc e3 o) o2
    have f0a := fun o => cell_alloc f0 o
    have f0b := fun o o2 => cell_alloc (cell_alloc f0 o) o2
    have f1a := fun o => cell_alloc f1 o
    have f1b := fun o o2 => cell_alloc (cell_alloc f1 o) o2
    have f2a := fun o => cell_alloc f2 o
    have f2b := fun o o2 => cell_alloc (cell_alloc f2 o) o2
    have f3a := fun o => cell_alloc f3 o
    have f3b := fun o o2 => cell_alloc (cell_alloc f3 o) o2
    have t0a := fun o => cell_alloc t0 o
    have t0b := fun o o2 => cell_alloc (cell_alloc t0 o) o2
    have t1a := fun o => cell_alloc t1 o
    have t1b := fun o o2 => cell_alloc (cell_alloc t1 o) o2
    generalize hwc : wc = w2 at *
    go_wp2
    go_cut [9, 10] (fun a b wx => Two w2 (.cells #[.int .i64 x.1.seq, .int .i64 x.1.time, .slice x.2.1 x.1.labs.length x.2.2, .string ⟨x.1.line.toArray⟩] 34) (.cells #[.int .i64 y.1.seq, .int .i64 y.1.time, .slice y.2.1 y.1.labs.length y.2.2, .string ⟨y.1.line.toArray⟩] 34) a b wx)
    case first =>
      go_region
      all_goals (go_wp2_with fail; go_meet; first | exact two_ab _ _ _ | exact two_ba _ _ _)
    case rest =>
      obtain ⟨k3, k4, rfl, rfl, g3, g4, b4⟩ := hcut
      clear e0a e0b e1a e1b e2a e2b e3a e3b f0a f0b f1a f1b f2a f2b f3a f3b t0a t0b t1a t1b
      have G1 := (b4.block k1 (row_lt g1)).trans g1
      have G2 := (b4.block k2 (row_lt g2)).trans g2
      have D1 := (b4.cell (p := ⟨q, 1, none⟩) (Nat.lt_of_lt_of_le hq b2.size)).trans d1
      have hqw := Nat.lt_of_lt_of_le hq (Nat.le_trans b2.size b4.size)
      have mkS : ∀ w', Below wc.heap.size wc w' → Below wc.heap.size wc w' ∧ w'.cell? ⟨q, 1, none⟩ = some (.bool nb) ∧ w'.cell? ⟨k1, 1, none⟩ = some (.int .i64 (pa : Int)) ∧ w'.cell? ⟨k2, 1, none⟩ = some (.int .i64 (pb : Int)) ∧ w'.cell? ⟨k3, 0, none⟩ = some (.int .i64 x.1.seq) ∧ w'.cell? ⟨k3, 1, none⟩ = some (.int .i64 x.1.time) ∧ w'.cell? ⟨k3, 2, none⟩ = some (.slice x.2.1 x.1.labs.length x.2.2) ∧ w'.cell? ⟨k3, 3, none⟩ = some (.string ⟨x.1.line.toArray⟩) ∧ w'.cell? ⟨k4, 0, none⟩ = some (.int .i64 y.1.seq) ∧ w'.cell? ⟨k4, 1, none⟩ = some (.int .i64 y.1.time) ∧ w'.cell? ⟨k4, 2, none⟩ = some (.slice y.2.1 y.1.labs.length y.2.2) ∧ w'.cell? ⟨k4, 3, none⟩ = some (.string ⟨y.1.line.toArray⟩) := fun w' h => by
        have e3 := keep4 g3 h
        have e4 := keep4 g4 h
        exact ⟨h, (h.cell (p := ⟨q, 1, none⟩) hqw).trans D1, held_cell (keep4 G1 h) rfl, held_cell (keep4 G2 h) rfl, held_cell e3 rfl, held_cell e3 rfl, held_cell e3 rfl, held_cell e3 rfl, held_cell e4 rfl, held_cell e4 rfl, held_cell e4 rfl, held_cell e4 rfl⟩
      have hk := mkS wc.drew (Below.refl _ _).drew
      clear t0 t1 e0 e1 e2 e3 f0 f1 f2 f3 d1 D1 G1 G2 g1 g2 g3 g4 c0 c1 hca hcb
      go_wp2_with fail
      go_region_held3 (fun w' => Below wc.heap.size wc w' ∧ w'.cell? ⟨q, 1, none⟩ = some (.bool nb) ∧ w'.cell? ⟨k1, 1, none⟩ = some (.int .i64 (pa : Int)) ∧ w'.cell? ⟨k2, 1, none⟩ = some (.int .i64 (pb : Int)) ∧ w'.cell? ⟨k3, 0, none⟩ = some (.int .i64 x.1.seq) ∧ w'.cell? ⟨k3, 1, none⟩ = some (.int .i64 x.1.time) ∧ w'.cell? ⟨k3, 2, none⟩ = some (.slice x.2.1 x.1.labs.length x.2.2) ∧ w'.cell? ⟨k3, 3, none⟩ = some (.string ⟨x.1.line.toArray⟩) ∧ w'.cell? ⟨k4, 0, none⟩ = some (.int .i64 y.1.seq) ∧ w'.cell? ⟨k4, 1, none⟩ = some (.int .i64 y.1.time) ∧ w'.cell? ⟨k4, 2, none⟩ = some (.slice y.2.1 y.1.labs.length y.2.2) ∧ w'.cell? ⟨k4, 3, none⟩ = some (.string ⟨y.1.line.toArray⟩)) (exact hk)
        (first | (go_at_call 20; refine (hF1 _).mono ?_; rintro e w5 ⟨rfl, b5⟩; have hk := mkS _ (hk.1.trans (b5.mono hk.1.size))))
      cases r1
      · have hk2 := mkS w5.drew hk.1.drew
        clear hk
        go_wp2_with fail
        go_region_held3 (fun w' => Below wc.heap.size wc w' ∧ w'.cell? ⟨q, 1, none⟩ = some (.bool nb) ∧ w'.cell? ⟨k1, 1, none⟩ = some (.int .i64 (pa : Int)) ∧ w'.cell? ⟨k2, 1, none⟩ = some (.int .i64 (pb : Int)) ∧ w'.cell? ⟨k3, 0, none⟩ = some (.int .i64 x.1.seq) ∧ w'.cell? ⟨k3, 1, none⟩ = some (.int .i64 x.1.time) ∧ w'.cell? ⟨k3, 2, none⟩ = some (.slice x.2.1 x.1.labs.length x.2.2) ∧ w'.cell? ⟨k3, 3, none⟩ = some (.string ⟨x.1.line.toArray⟩) ∧ w'.cell? ⟨k4, 0, none⟩ = some (.int .i64 y.1.seq) ∧ w'.cell? ⟨k4, 1, none⟩ = some (.int .i64 y.1.time) ∧ w'.cell? ⟨k4, 2, none⟩ = some (.slice y.2.1 y.1.labs.length y.2.2) ∧ w'.cell? ⟨k4, 3, none⟩ = some (.string ⟨y.1.line.toArray⟩)) (exact hk2)
          (first | (go_at_call 20; refine (hF2 _).mono ?_; rintro e w6 ⟨rfl, b6⟩; have hk2 := mkS _ (hk2.1.trans (b6.mono hk2.1.size))))
        cases r2
        · obtain ⟨bk, _, h1, h2, _⟩ := hk2
          have fin := b2.trans ((b4.trans (bk.mono b4.size)).mono b2.size)
          go_wp2_with fail
          go_ret
          exact ⟨by simp, fin⟩
        · have fin := b2.trans ((b4.trans (hk2.1.mono b4.size)).mono b2.size)
          go_wp2_with fail
          go_ret
          exact ⟨rfl, fin⟩
      · go_wp2_with fail
        go_ret
        exact ⟨rfl, b2.trans ((b4.trans (hk.1.mono b4.size)).mono b2.size)⟩
end Go.Proofs.Ytcffagfkpkfgbaa
