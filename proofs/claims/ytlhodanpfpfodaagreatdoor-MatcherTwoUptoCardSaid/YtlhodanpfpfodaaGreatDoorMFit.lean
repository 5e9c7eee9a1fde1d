/-
  What a match asks of labels: asked, holds, Fits. Conditions: those that each theorem names.
-/
import Derived.Test.YtlhodanpfpfodaaGreatDoorMKno
import Derived.Test.YtlhodanpfpfodaaGreatDoorGet
namespace Go.Proofs.YtlhodanpfpfodaaGreatDoor
open Go.RowKit Go.Icz
/-- What a match asks, as a value. -/
def askV (op : Int) (v : B8) : Value :=
  if op = 1 then .iface 148 (.string ⟨v.toArray⟩)
  else if op = 2 then .iface 153 (.agg #[.iface 148 (.string ⟨v.toArray⟩)])
  else if op = 3 then .iface 150 (.string ⟨v.toArray⟩)
  else if op = 4 then .iface 153 (.agg #[.iface 150 (.string ⟨v.toArray⟩)])
  else .nilIface
/-- Whether a value is as it is asked to be. -/
def holdS (op : Int) (v x : B8) : Bool :=
  if op = 1 then x == v else if op = 2 then !(x == v) else if op = 3 then globS v x else if op = 4 then !globS v x else false
def fitsS (ms : List Mt) (l : List Lab) : Bool := ms.all fun m => holdS m.op m.val (getS m.name l).1
set_option maxHeartbeats 2000000 in
set_option maxRecDepth 100000 in
theorem asked_is (nm vl : B8) (op : Int) (w : World) :
    Calls Tryz.prog 70 #[.agg #[.string ⟨nm.toArray⟩, .int .i64 op, .string ⟨vl.toArray⟩]] w fun e w' => e = .returned (askV op vl) ∧ Below w.heap.size w w' := by
  have bx : Below w.heap.size w (w.alloc (.cells #[.string ⟨nm.toArray⟩, .int .i64 op, .string ⟨vl.toArray⟩] 57)) := (Below.refl _ w).alloc (Nat.le_refl _) _
  have hcs : op = 1 ∨ op = 2 ∨ op = 3 ∨ op = 4 ∨ ((op == 1) = false ∧ (op == 2) = false ∧ (op == 3) = false ∧ (op == 4) = false ∧ askV op vl = .nilIface) := by
    by_cases h1 : op = 1
    · exact .inl h1
    by_cases h2 : op = 2
    · exact .inr (.inl h2)
    by_cases h3 : op = 3
    · exact .inr (.inr (.inl h3))
    by_cases h4 : op = 4
    · exact .inr (.inr (.inr (.inl h4)))
    · exact .inr (.inr (.inr (.inr ⟨by simpa using h1, by simpa using h2, by simpa using h3, by simpa using h4, by unfold askV; rw [if_neg h1, if_neg h2, if_neg h3, if_neg h4]⟩)))
  rcases hcs with rfl | rfl | rfl | rfl | ⟨k1, k2, k3, k4, k5⟩
  · go_enter Tryz.func70, Tryz.ntmps70
    go_wp2
    go_ret
    exact ⟨rfl, bx⟩
  · go_enter Tryz.func70, Tryz.ntmps70
    go_wp2
    go_ret
    exact ⟨rfl, bx⟩
  · go_enter Tryz.func70, Tryz.ntmps70
    go_wp2
    go_ret
    exact ⟨rfl, bx⟩
  · go_enter Tryz.func70, Tryz.ntmps70
    go_wp2
    go_ret
    exact ⟨rfl, bx⟩
  · go_enter Tryz.func70, Tryz.ntmps70
    go_wp2
    go_ret
    exact ⟨by rw [k5]; rfl, bx⟩
theorem as_ss (v : Value) (w : World) : (Instr.typeAssert (.iface 148 v) 20 148 true).run Tryz.prog w = .ok (.tuple #[v, .bool true]) w := by kernel_rfl
theorem as_sf (v : Value) (w : World) : (Instr.typeAssert (.iface 148 v) 20 150 true).run Tryz.prog w = .ok (.tuple #[.string ⟨#[]⟩, .bool false]) w := by kernel_rfl
theorem as_sc (v : Value) (w : World) : (Instr.typeAssert (.iface 148 v) 20 153 true).run Tryz.prog w = .ok (.tuple #[.agg #[.nilIface], .bool false]) w := by kernel_rfl
theorem as_fs (v : Value) (w : World) : (Instr.typeAssert (.iface 150 v) 20 148 true).run Tryz.prog w = .ok (.tuple #[.string ⟨#[]⟩, .bool false]) w := by kernel_rfl
theorem as_ff (v : Value) (w : World) : (Instr.typeAssert (.iface 150 v) 20 150 true).run Tryz.prog w = .ok (.tuple #[v, .bool true]) w := by kernel_rfl
theorem as_fc (v : Value) (w : World) : (Instr.typeAssert (.iface 150 v) 20 153 true).run Tryz.prog w = .ok (.tuple #[.agg #[.nilIface], .bool false]) w := by kernel_rfl
theorem as_cs (v : Value) (w : World) : (Instr.typeAssert (.iface 153 v) 20 148 true).run Tryz.prog w = .ok (.tuple #[.string ⟨#[]⟩, .bool false]) w := by kernel_rfl
theorem as_cf (v : Value) (w : World) : (Instr.typeAssert (.iface 153 v) 20 150 true).run Tryz.prog w = .ok (.tuple #[.string ⟨#[]⟩, .bool false]) w := by kernel_rfl
theorem as_cc (v : Value) (w : World) : (Instr.typeAssert (.iface 153 v) 20 153 true).run Tryz.prog w = .ok (.tuple #[v, .bool true]) w := by kernel_rfl
theorem as_ns (w : World) : (Instr.typeAssert .nilIface 20 148 true).run Tryz.prog w = .ok (.tuple #[.string ⟨#[]⟩, .bool false]) w := by kernel_rfl
theorem as_nf (w : World) : (Instr.typeAssert .nilIface 20 150 true).run Tryz.prog w = .ok (.tuple #[.string ⟨#[]⟩, .bool false]) w := by kernel_rfl
theorem as_nc (w : World) : (Instr.typeAssert .nilIface 20 153 true).run Tryz.prog w = .ok (.tuple #[.agg #[.nilIface], .bool false]) w := by kernel_rfl
set_option maxHeartbeats 2000000 in
set_option maxRecDepth 100000 in
theorem holds_base (op : Int) (vl x : B8) (h : op = 1 ∨ op = 3) (w : World) (hv : vl.length ≤ 1048576) (hx : x.length ≤ 1048576) :
    Calls Tryz.prog 69 #[askV op vl, .string ⟨x.toArray⟩] w fun e w' => e = .returned (.bool (holdS op vl x)) ∧ Below w.heap.size w w' := by
  rcases h with rfl | rfl
  · have e : askV 1 vl = .iface 148 (.string ⟨vl.toArray⟩) := rfl
    have e2 : holdS 1 vl x = (x == vl) := rfl
    rw [e, e2]
    have a1 := as_ss
    go_enter Tryz.func69, Tryz.ntmps69
    go_wp2
    go_ret
    exact ⟨by first | rfl | simp, Below.refl _ _⟩
  · have e : askV 3 vl = .iface 150 (.string ⟨vl.toArray⟩) := rfl
    have e2 : holdS 3 vl x = globS vl x := rfl
    have hG := Glob_is ⟨vl.toArray⟩ ⟨x.toArray⟩ w (by rw [Lib.size_mk]; exact hv) (by rw [Lib.size_mk]; exact hx)
    rw [e, e2]
    simp only [] at hG
    have a1 := as_fs
    have a2 := as_ff
    go_enter Tryz.func69, Tryz.ntmps69
    go_wp2_with (go_at_call 20; refine hG.mono ?_; rintro e w1 ⟨rfl, b1⟩)
    go_ret
    exact ⟨rfl, b1⟩
set_option maxHeartbeats 2000000 in
set_option maxRecDepth 100000 in
theorem holds_is (op : Int) (vl x : B8) (w : World) (hv : vl.length ≤ 1048576) (hx : x.length ≤ 1048576) :
    Calls Tryz.prog 69 #[askV op vl, .string ⟨x.toArray⟩] w fun e w' => e = .returned (.bool (holdS op vl x)) ∧ Below w.heap.size w w' := by
  by_cases h1 : op = 1
  · exact holds_base op vl x (.inl h1) w hv hx
  by_cases h3 : op = 3
  · exact holds_base op vl x (.inr h3) w hv hx
  by_cases h2 : op = 2
  · subst h2
    have e : askV 2 vl = .iface 153 (.agg #[.iface 148 (.string ⟨vl.toArray⟩)]) := rfl
    have e1 : askV 1 vl = .iface 148 (.string ⟨vl.toArray⟩) := rfl
    have e2 : holdS 2 vl x = !(holdS 1 vl x) := rfl
    have hB := fun w1 => holds_base 1 vl x (.inl rfl) w1 hv hx
    rw [e1] at hB
    rw [e, e2]
    generalize holdS 1 vl x = b at *
    have a1 := as_cs
    have a2 := as_cf
    have a3 := as_cc
    go_enter Tryz.func69, Tryz.ntmps69
    go_wp2_with (go_at_call 69; refine (hB _).mono ?_; rintro e w1 ⟨rfl, b1⟩)
    go_ret
    exact ⟨rfl, below_alloc (Nat.le_refl _) (b1.mono (by simp))⟩
  by_cases h4 : op = 4
  · subst h4
    have e : askV 4 vl = .iface 153 (.agg #[.iface 150 (.string ⟨vl.toArray⟩)]) := rfl
    have e1 : askV 3 vl = .iface 150 (.string ⟨vl.toArray⟩) := rfl
    have e2 : holdS 4 vl x = !(holdS 3 vl x) := rfl
    have hB := fun w1 => holds_base 3 vl x (.inr rfl) w1 hv hx
    rw [e1] at hB
    rw [e, e2]
    generalize holdS 3 vl x = b at *
    have a1 := as_cs
    have a2 := as_cf
    have a3 := as_cc
    go_enter Tryz.func69, Tryz.ntmps69
    go_wp2_with (go_at_call 69; refine (hB _).mono ?_; rintro e w1 ⟨rfl, b1⟩)
    go_ret
    exact ⟨rfl, below_alloc (Nat.le_refl _) (b1.mono (by simp))⟩
  · have e : askV op vl = .nilIface := by unfold askV; rw [if_neg h1, if_neg h2, if_neg h3, if_neg h4]
    have e2 : holdS op vl x = false := by unfold holdS; rw [if_neg h1, if_neg h2, if_neg h3, if_neg h4]
    rw [e, e2]
    have a1 := as_ns
    have a2 := as_nf
    have a3 := as_nc
    go_enter Tryz.func69, Tryz.ntmps69
    go_wp2
    go_ret
    exact ⟨rfl, (Below.refl _ w).alloc (Nat.le_refl _) _⟩
set_option maxHeartbeats 4000000 in
set_option maxRecDepth 100000 in
theorem Fits_is (v0 v1 : Value) (ms : List Mt) (l : List Lab) (w : World) (h0 : KM.Rd w v0 ms) (h1 : RdL w v1 l) (hm : ms.length ≤ 1099511627776) (hz : ∀ m ∈ ms, m.val.length ≤ 1048576) (hl : l.length ≤ 1099511627776) (hg : ∀ n : B8, (getS n l).1.length ≤ 1048576) :
    Calls Tryz.prog 31 #[v0, v1] w fun e w' => e = .returned (.bool (fitsS ms l)) ∧ Below w.heap.size w w' := by
  obtain ⟨A, c, rfl, hc⟩ := h0.form
  have hGt := fun (n : B8) w1 (hb : Below w.heap.size w w1) => Get_is v1 l n w1 (h1.below hb) (by omega)
  obtain ⟨fr, hfr⟩ : ∃ b, fitsS ms l = b := ⟨_, rfl⟩
  have HF := hid hfr
  rw [hfr]
  clear hfr
  go_enter Tryz.func31, Tryz.ntmps31
  go_wp2_with fail
  go_loopw [11] (fun iv wr => ∃ i : Nat, iv = .int .i64 i ∧ i ≤ ms.length ∧ Below w.heap.size w wr ∧ Hid ((ms.take i).all (fun m => holdS m.op m.val (getS m.name l).1) = true)) (fun iv _ => ms.length - (intOf iv).toNat)
  case atStart => exact ⟨0, rfl, by omega, Below.refl _ _, hid rfl⟩
  case round =>
    obtain ⟨i, rfl, hi, hbw, HA⟩ := hrel
    by_cases hlt : i < ms.length
    · obtain ⟨b, off, rfl, hb, c0, c1, c2⟩ := KM_at h0 hlt
      rw [← hbw.cell (p := ⟨b, off + i * 3, none⟩) hb] at c0
      rw [← hbw.cell (p := ⟨b, off + i * 3 + 1, none⟩) hb] at c1
      rw [← hbw.cell (p := ⟨b, off + i * 3 + 2, none⟩) hb] at c2
      have hx := hz ms[i] (List.getElem_mem hlt)
      have HT : Hid ((ms.take (i + 1)).all (fun m => holdS m.op m.val (getS m.name l).1) = ((ms.take i).all (fun m => holdS m.op m.val (getS m.name l).1) && holdS ms[i].op ms[i].val (getS ms[i].name l).1)) := hid (by rw [List.take_add_one, List.getElem?_eq_getElem hlt]; simp only [Option.toList_some, List.all_append, List.all_cons, List.all_nil, Bool.and_true])
      have HN : Hid (holdS ms[i].op ms[i].val (getS ms[i].name l).1 = false → fr = false) := hid (fun h => by
        rw [← HF.out]
        exact List.all_eq_false.2 ⟨ms[i], List.getElem_mem hlt, by rw [h]; simp⟩)
      clear h0 hz HF
      generalize ms[i] = x at *
      obtain ⟨nm, op, vl⟩ := x
      simp only [] at hx c0 c1 c2 HT HN
      have hgn := hg nm
      have hG2 := fun w1 hb => hGt nm w1 hb
      clear hGt hg
      have bx := hbw.alloc hbw.size (.cells #[.string ⟨nm.toArray⟩, .int .i64 op, .string ⟨vl.toArray⟩] 57)
      have rx := heap_alloc_new wr (.cells #[.string ⟨nm.toArray⟩, .int .i64 op, .string ⟨vl.toArray⟩] 57)
      have zx := (Array.getElem?_eq_some_iff.1 rx).1
      generalize (getS nm l).1 = gv at *
      generalize (getS nm l).2 = gb at *
      have hH := fun w1 => holds_is op vl gv w1 (by omega) (by omega)
      have hAs := fun w1 => asked_is nm vl op w1
      generalize askV op vl = av at *
      cases hh : holdS op vl gv with
      | true =>
        have HA2 : Hid ((ms.take (i + 1)).all (fun m => holdS m.op m.val (getS m.name l).1) = true) := hid (by rw [HT.out, HA.out, hh]; rfl)
        rw [hh] at hH
        clear HT HA HN hh
        go_wp2_with (first
          | (go_at_call 68; refine (hG2 _ bx).mono ?_; rintro e w2 ⟨rfl, b2⟩; clear hG2; have rx2 := (b2.block _ zx).trans rx; have e0 : w2.cell? ⟨wr.heap.size, 0, none⟩ = some (.string ⟨nm.toArray⟩) := held_cell rx2 rfl; have e1 : w2.cell? ⟨wr.heap.size, 1, none⟩ = some (.int .i64 op) := held_cell rx2 rfl; have e2 : w2.cell? ⟨wr.heap.size, 2, none⟩ = some (.string ⟨vl.toArray⟩) := held_cell rx2 rfl; have bt2 := bx.trans (b2.mono bx.size))
          | (go_at_call 70; refine (hAs _).mono ?_; rintro e w3 ⟨rfl, b3⟩; clear hAs; have bt3 := bt2.trans (b3.mono bt2.size))
          | (go_at_call 69; refine (hH _).mono ?_; rintro e w4 ⟨rfl, b4⟩; clear hH; have bt4 := bt3.trans (b4.mono bt3.size)))
        go_roundw
        case rel => exact ⟨i + 1, by go_num, by omega, bt4, HA2⟩
        case measure => simp [intOf]; omega
      | false =>
        have HX := hid (HN.out hh)
        rw [hh] at hH
        clear HT HA HN hh
        go_wp2_with (first
          | (go_at_call 68; refine (hG2 _ bx).mono ?_; rintro e w2 ⟨rfl, b2⟩; clear hG2; have rx2 := (b2.block _ zx).trans rx; have e0 : w2.cell? ⟨wr.heap.size, 0, none⟩ = some (.string ⟨nm.toArray⟩) := held_cell rx2 rfl; have e1 : w2.cell? ⟨wr.heap.size, 1, none⟩ = some (.int .i64 op) := held_cell rx2 rfl; have e2 : w2.cell? ⟨wr.heap.size, 2, none⟩ = some (.string ⟨vl.toArray⟩) := held_cell rx2 rfl; have bt2 := bx.trans (b2.mono bx.size))
          | (go_at_call 70; refine (hAs _).mono ?_; rintro e w3 ⟨rfl, b3⟩; clear hAs; have bt3 := bt2.trans (b3.mono bt2.size))
          | (go_at_call 69; refine (hH _).mono ?_; rintro e w4 ⟨rfl, b4⟩; clear hH; have bt4 := bt3.trans (b4.mono bt3.size)))
        go_ret
        exact ⟨by rw [HX.out]; rfl, bt4⟩
    · have e : ms.take i = ms := List.take_of_length_le (by omega)
      have hA := HA.out
      rw [e] at hA
      have HX : Hid (fr = true) := hid (HF.out.symm.trans hA)
      clear h0 hz HF HA hA
      go_wp2_with fail
      go_ret
      exact ⟨by rw [HX.out]; rfl, hbw⟩
end Go.Proofs.YtlhodanpfpfodaaGreatDoor
