/-
  What the law's Same of entries and of lists of entries answers where both read as the same. Conditions: the entries can be read; sizes as each theorem names.
  What the law's Sames of lists of entries answers where both read as the same. Conditions: the entries can be read; sizes as each theorem names.
-/
import Derived.Test.YtaoeabnpmpimgaaDoorEntAll2
import Derived.Test.YtaoeabnpmpimgaaDoorEntPut
import Derived.Deep.RegionHeld3
section
namespace Go.Proofs.YtaoeabnpmpimgaaDoor
open Go.RowKit Go.Icz
set_option maxHeartbeats 1000000 in
set_option maxRecDepth 100000 in
theorem ESame_refl (x : Ent) (A A' : Option Addr) (c c' : Nat) (w : World) (h1 : RdL w (.slice A x.labs.length c) x.labs) (h2 : RdL w (.slice A' x.labs.length c') x.labs) (hm : x.labs.length ≤ 4611686018427387904) :
    Calls Tryd.prog 18 #[entV x A c, entV x A' c'] w fun e w' => e = .returned (.bool true) ∧ Below w.heap.size w w' := by
  have hS := fun w1 g1 g2 => Same_is (.slice A x.labs.length c) (.slice A' x.labs.length c') x.labs x.labs w1 g1 g2 hm
  rw [decide_eq_true rfl] at hS
  have g1 := fun o o2 => (h1.alloc o).alloc o2
  have g2 := fun o o2 => (h2.alloc o).alloc o2
  have hb : ∀ o o2, Below w.heap.size w ((w.alloc o).alloc o2) := fun o o2 => ((Below.refl _ _).alloc (Nat.le_refl _) o).alloc (by simp) o2
  clear h1 h2 hm
  unfold entV
  go_enter Tryd.func18, Tryd.ntmps18
  go_wp2_with (go_at_call 15; refine (hS _ (g1 _ _) (g2 _ _)).mono ?_; rintro e w1 ⟨rfl, b1⟩)
  go_ret
  exact ⟨rfl, (hb _ _).trans (b1.mono (by simp; omega))⟩
end Go.Proofs.YtaoeabnpmpimgaaDoor
end
section
namespace Go.Proofs.YtaoeabnpmpimgaaDoor
open Go.RowKit Go.Icz
set_option maxHeartbeats 1000000 in
set_option maxRecDepth 100000 in
theorem ESames_refl (v1 v2 : Value) (l : List Ent) (w : World) (h1 : RdE w v1 l) (h2 : RdE w v2 l) (hm : ∀ x ∈ l, x.labs.length ≤ 4611686018427387904) (hlen : l.length ≤ 4611686018427387904) :
    Calls Tryd.prog 9 #[v1, v2] w fun e w' => e = .returned (.bool true) ∧ Below w.heap.size w w' := by
  obtain ⟨A, c, rfl, hlc, hcell⟩ := h1
  obtain ⟨A2, c2, rfl, hlc2, hcell2⟩ := h2
  go_enter Tryd.func9, Tryd.ntmps9
  go_wp2
  go_loopw [5] (fun iv wr => ∃ i : Nat, iv = .int .i64 i ∧ i ≤ l.length ∧ Below w.heap.size w wr) (fun iv _ => l.length - (intOf iv).toNat)
  case atStart => exact ⟨0, rfl, by omega, Below.refl _ _⟩
  case round =>
    obtain ⟨i, rfl, hi, hbw⟩ := hrel
    by_cases hlt : i < l.length
    · obtain ⟨b, off, rfl, hb, hcell⟩ := hcell (by omega)
      obtain ⟨b2, off2, rfl, hb2, hcell2⟩ := hcell2 (by omega)
      obtain ⟨A', c', q0, q1, q2, q3, rl⟩ := hcell i hlt
      obtain ⟨A3, c3, p0, p1, p2, p3, rl2⟩ := hcell2 i hlt
      have q0 := (hbw.cell (p := ⟨b, off + i * 4, none⟩) hb).trans q0
      have q1 := (hbw.cell (p := ⟨b, off + i * 4 + 1, none⟩) hb).trans q1
      have q2 := (hbw.cell (p := ⟨b, off + i * 4 + 2, none⟩) hb).trans q2
      have q3 := (hbw.cell (p := ⟨b, off + i * 4 + 3, none⟩) hb).trans q3
      have p0 := (hbw.cell (p := ⟨b2, off2 + i * 4, none⟩) hb2).trans p0
      have p1 := (hbw.cell (p := ⟨b2, off2 + i * 4 + 1, none⟩) hb2).trans p1
      have p2 := (hbw.cell (p := ⟨b2, off2 + i * 4 + 2, none⟩) hb2).trans p2
      have p3 := (hbw.cell (p := ⟨b2, off2 + i * 4 + 3, none⟩) hb2).trans p3
      have rl := rl.below hbw
      have rl2 := rl2.below hbw
      have hz := Nat.lt_of_lt_of_le hb hbw.size
      have hz2 := Nat.lt_of_lt_of_le hb2 hbw.size
      have hx := hm l[i] (List.getElem_mem hlt)
      have hil : i + 1 ≤ l.length := hlt
      have HIL := hid hil
      clear hcell hcell2 hm
      generalize l[i] = x at *
      have hS := fun w1 g1 g2 => ESame_refl x A' A3 c' c3 w1 g1 g2 hx
      unfold entV at hS
      have mkS : ∀ w', Below wr.heap.size wr w' → Below wr.heap.size wr w' ∧ w'.cell? ⟨b, off + i * 4, none⟩ = some (.int .i64 x.seq) ∧ w'.cell? ⟨b, off + i * 4 + 1, none⟩ = some (.int .i64 x.time) ∧ w'.cell? ⟨b, off + i * 4 + 2, none⟩ = some (.slice A' x.labs.length c') ∧ w'.cell? ⟨b, off + i * 4 + 3, none⟩ = some (.string ⟨x.line.toArray⟩) ∧ w'.cell? ⟨b2, off2 + i * 4, none⟩ = some (.int .i64 x.seq) ∧ w'.cell? ⟨b2, off2 + i * 4 + 1, none⟩ = some (.int .i64 x.time) ∧ w'.cell? ⟨b2, off2 + i * 4 + 2, none⟩ = some (.slice A3 x.labs.length c3) ∧ w'.cell? ⟨b2, off2 + i * 4 + 3, none⟩ = some (.string ⟨x.line.toArray⟩) := fun w' h => ⟨h, (h.cell (p := ⟨b, off + i * 4, none⟩) hz).trans q0, (h.cell (p := ⟨b, off + i * 4 + 1, none⟩) hz).trans q1, (h.cell (p := ⟨b, off + i * 4 + 2, none⟩) hz).trans q2, (h.cell (p := ⟨b, off + i * 4 + 3, none⟩) hz).trans q3, (h.cell (p := ⟨b2, off2 + i * 4, none⟩) hz2).trans p0, (h.cell (p := ⟨b2, off2 + i * 4 + 1, none⟩) hz2).trans p1, (h.cell (p := ⟨b2, off2 + i * 4 + 2, none⟩) hz2).trans p2, (h.cell (p := ⟨b2, off2 + i * 4 + 3, none⟩) hz2).trans p3⟩
      have hk := mkS wr.drew (Below.refl _ _).drew
      clear q0 q1 q2 q3 p0 p1 p2 p3
      go_wp2_with fail
      go_region_held3 (fun w' => Below wr.heap.size wr w' ∧ w'.cell? ⟨b, off + i * 4, none⟩ = some (.int .i64 x.seq) ∧ w'.cell? ⟨b, off + i * 4 + 1, none⟩ = some (.int .i64 x.time) ∧ w'.cell? ⟨b, off + i * 4 + 2, none⟩ = some (.slice A' x.labs.length c') ∧ w'.cell? ⟨b, off + i * 4 + 3, none⟩ = some (.string ⟨x.line.toArray⟩) ∧ w'.cell? ⟨b2, off2 + i * 4, none⟩ = some (.int .i64 x.seq) ∧ w'.cell? ⟨b2, off2 + i * 4 + 1, none⟩ = some (.int .i64 x.time) ∧ w'.cell? ⟨b2, off2 + i * 4 + 2, none⟩ = some (.slice A3 x.labs.length c3) ∧ w'.cell? ⟨b2, off2 + i * 4 + 3, none⟩ = some (.string ⟨x.line.toArray⟩)) (exact hk)
        (first | (go_at_call 18; refine (hS _ (rl.below hk.1) (rl2.below hk.1)).mono ?_; rintro e w1 ⟨rfl, b1⟩; have hk := mkS _ (hk.1.trans (b1.mono hk.1.size))))
      go_wp2_with fail
      go_roundw
      case rel => exact ⟨i + 1, by go_num, HIL.out, hbw.trans (hk.1.mono hbw.size)⟩
      case measure => have h9 := HIL.out; simp [intOf]; omega
    · clear hcell hcell2 hm
      go_wp2
      go_ret
      exact ⟨rfl, hbw⟩
end Go.Proofs.YtaoeabnpmpimgaaDoor
end
