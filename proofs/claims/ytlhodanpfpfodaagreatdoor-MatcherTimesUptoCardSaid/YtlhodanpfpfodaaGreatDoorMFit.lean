/-
  What a match asks of labels: asked, holds, Fits. Conditions: those that each theorem names.
  matcher.Takes. Conditions: those that each theorem names.
-/
import Derived.Test.YtlhodanpfpfodaaGreatDoorMKno
import Derived.Test.YtlhodanpfpfodaaGreatDoorGet
import Derived.Shelf.Strings.Shaped
import Derived.Shelf.Lay
import Derived.Ground.NamesProg
namespace Go.Proofs.YtlhodanpfpfodaaGreatDoor
open Go.RowKit Go.Icz
/-- What a match asks, as a value. -/
def askV (op : Int) (v : B8) : Value :=
  if op = 1 then .iface 148 (.string ⟨v.toArray⟩)
  else if op = 2 then .iface 153 (.agg #[.iface 148 (.string ⟨v.toArray⟩)])
  else if op = 3 then .iface 150 (.string ⟨v.toArray⟩)
  else if op = 4 then .iface 153 (.agg #[.iface 150 (.string ⟨v.toArray⟩)])
  else .nilIface
/-- Whether a value is as it is asked to be. -/
def holdS (op : Int) (v x : B8) : Bool :=
  if op = 1 then x == v else if op = 2 then !(x == v) else if op = 3 then globS v x else if op = 4 then !globS v x else false
def fitsS (ms : List Mt) (l : List Lab) : Bool := ms.all fun m => holdS m.op m.val (getS m.name l).1
set_option maxHeartbeats 2000000 in
set_option maxRecDepth 100000 in
theorem asked_is (nm vl : B8) (op : Int) (w : World) :
    Calls Tryz.prog 70 #[.agg #[.string ⟨nm.toArray⟩, .int .i64 op, .string ⟨vl.toArray⟩]] w fun e w' => e = .returned (askV op vl) ∧ Below w.heap.size w w' := by
  have bx : Below w.heap.size w (w.alloc (.cells #[.string ⟨nm.toArray⟩, .int .i64 op, .string ⟨vl.toArray⟩] 57)) := (Below.refl _ w).alloc (Nat.le_refl _) _
  have hcs : op = 1 ∨ op = 2 ∨ op = 3 ∨ op = 4 ∨ ((op == 1) = false ∧ (op == 2) = false ∧ (op == 3) = false ∧ (op == 4) = false ∧ askV op vl = .nilIface) := by
    by_cases h1 : op = 1
    · exact .inl h1
    by_cases h2 : op = 2
    · exact .inr (.inl h2)
    by_cases h3 : op = 3
    · exact .inr (.inr (.inl h3))
    by_cases h4 : op = 4
    · exact .inr (.inr (.inr (.inl h4)))
    · exact .inr (.inr (.inr (.inr ⟨by simpa using h1, by simpa using h2, by simpa using h3, by simpa using h4, by unfold askV; rw [if_neg h1, if_neg h2, if_neg h3, if_neg h4]⟩)))
  rcases hcs with rfl | rfl | rfl | rfl | ⟨k1, k2, k3, k4, k5⟩
  · go_enter Tryz.func70, Tryz.ntmps70
    go_wp2
    go_ret
    exact ⟨rfl, bx⟩
  · go_enter Tryz.func70, Tryz.ntmps70
    go_wp2
    go_ret
    exact ⟨rfl, bx⟩
  · go_enter Tryz.func70, Tryz.ntmps70
    go_wp2
    go_ret
    exact ⟨rfl, bx⟩
  · go_enter Tryz.func70, Tryz.ntmps70
    go_wp2
    go_ret
    exact ⟨rfl, bx⟩
  · go_enter Tryz.func70, Tryz.ntmps70
    go_wp2
    go_ret
    exact ⟨by rw [k5]; rfl, bx⟩
theorem as_ss (v : Value) (w : World) : (Instr.typeAssert (.iface 148 v) 20 148 true).run Tryz.prog w = .ok (.tuple #[v, .bool true]) w := by kernel_rfl
theorem as_sf (v : Value) (w : World) : (Instr.typeAssert (.iface 148 v) 20 150 true).run Tryz.prog w = .ok (.tuple #[.string ⟨#[]⟩, .bool false]) w := by kernel_rfl
theorem as_sc (v : Value) (w : World) : (Instr.typeAssert (.iface 148 v) 20 153 true).run Tryz.prog w = .ok (.tuple #[.agg #[.nilIface], .bool false]) w := by kernel_rfl
theorem as_fs (v : Value) (w : World) : (Instr.typeAssert (.iface 150 v) 20 148 true).run Tryz.prog w = .ok (.tuple #[.string ⟨#[]⟩, .bool false]) w := by kernel_rfl
theorem as_ff (v : Value) (w : World) : (Instr.typeAssert (.iface 150 v) 20 150 true).run Tryz.prog w = .ok (.tuple #[v, .bool true]) w := by kernel_rfl
theorem as_fc (v : Value) (w : World) : (Instr.typeAssert (.iface 150 v) 20 153 true).run Tryz.prog w = .ok (.tuple #[.agg #[.nilIface], .bool false]) w := by kernel_rfl
theorem as_cs (v : Value) (w : World) : (Instr.typeAssert (.iface 153 v) 20 148 true).run Tryz.prog w = .ok (.tuple #[.string ⟨#[]⟩, .bool false]) w := by kernel_rfl
theorem as_cf (v : Value) (w : World) : (Instr.typeAssert (.iface 153 v) 20 150 true).run Tryz.prog w = .ok (.tuple #[.string ⟨#[]⟩, .bool false]) w := by kernel_rfl
theorem as_cc (v : Value) (w : World) : (Instr.typeAssert (.iface 153 v) 20 153 true).run Tryz.prog w = .ok (.tuple #[v, .bool true]) w := by kernel_rfl
theorem as_ns (w : World) : (Instr.typeAssert .nilIface 20 148 true).run Tryz.prog w = .ok (.tuple #[.string ⟨#[]⟩, .bool false]) w := by kernel_rfl
theorem as_nf (w : World) : (Instr.typeAssert .nilIface 20 150 true).run Tryz.prog w = .ok (.tuple #[.string ⟨#[]⟩, .bool false]) w := by kernel_rfl
theorem as_nc (w : World) : (Instr.typeAssert .nilIface 20 153 true).run Tryz.prog w = .ok (.tuple #[.agg #[.nilIface], .bool false]) w := by kernel_rfl
set_option maxHeartbeats 2000000 in
set_option maxRecDepth 100000 in
theorem holds_base (op : Int) (vl x : B8) (h : op = 1 ∨ op = 3) (w : World) (hv : vl.length ≤ 1048576) (hx : x.length ≤ 1048576) :
    Calls Tryz.prog 69 #[askV op vl, .string ⟨x.toArray⟩] w fun e w' => e = .returned (.bool (holdS op vl x)) ∧ Below w.heap.size w w' := by
  rcases h with rfl | rfl
  · have e : askV 1 vl = .iface 148 (.string ⟨vl.toArray⟩) := rfl
    have e2 : holdS 1 vl x = (x == vl) := rfl
    rw [e, e2]
    have a1 := as_ss
    go_enter Tryz.func69, Tryz.ntmps69
    go_wp2
    go_ret
    exact ⟨by first | rfl | simp, Below.refl _ _⟩
  · have e : askV 3 vl = .iface 150 (.string ⟨vl.toArray⟩) := rfl
    have e2 : holdS 3 vl x = globS vl x := rfl
    have hG := Glob_is ⟨vl.toArray⟩ ⟨x.toArray⟩ w (by rw [Lib.size_mk]; exact hv) (by rw [Lib.size_mk]; exact hx)
    rw [e, e2]
    simp only [] at hG
    have a1 := as_fs
    have a2 := as_ff
    go_enter Tryz.func69, Tryz.ntmps69
    go_wp2_with (go_at_call 20; refine hG.mono ?_; rintro e w1 ⟨rfl, b1⟩)
    go_ret
    exact ⟨rfl, b1⟩
set_option maxHeartbeats 2000000 in
set_option maxRecDepth 100000 in
theorem holds_is (op : Int) (vl x : B8) (w : World) (hv : vl.length ≤ 1048576) (hx : x.length ≤ 1048576) :
    Calls Tryz.prog 69 #[askV op vl, .string ⟨x.toArray⟩] w fun e w' => e = .returned (.bool (holdS op vl x)) ∧ Below w.heap.size w w' := by
  by_cases h1 : op = 1
  · exact holds_base op vl x (.inl h1) w hv hx
  by_cases h3 : op = 3
  · exact holds_base op vl x (.inr h3) w hv hx
  by_cases h2 : op = 2
  · subst h2
    have e : askV 2 vl = .iface 153 (.agg #[.iface 148 (.string ⟨vl.toArray⟩)]) := rfl
    have e1 : askV 1 vl = .iface 148 (.string ⟨vl.toArray⟩) := rfl
    have e2 : holdS 2 vl x = !(holdS 1 vl x) := rfl
    have hB := fun w1 => holds_base 1 vl x (.inl rfl) w1 hv hx
    rw [e1] at hB
    rw [e, e2]
    generalize holdS 1 vl x = b at *
    have a1 := as_cs
    have a2 := as_cf
    have a3 := as_cc
    go_enter Tryz.func69, Tryz.ntmps69
    go_wp2_with (go_at_call 69; refine (hB _).mono ?_; rintro e w1 ⟨rfl, b1⟩)
    go_ret
    exact ⟨rfl, below_alloc (Nat.le_refl _) (b1.mono (by simp))⟩
  by_cases h4 : op = 4
  · subst h4
    have e : askV 4 vl = .iface 153 (.agg #[.iface 150 (.string ⟨vl.toArray⟩)]) := rfl
    have e1 : askV 3 vl = .iface 150 (.string ⟨vl.toArray⟩) := rfl
    have e2 : holdS 4 vl x = !(holdS 3 vl x) := rfl
    have hB := fun w1 => holds_base 3 vl x (.inr rfl) w1 hv hx
    rw [e1] at hB
    rw [e, e2]
    generalize holdS 3 vl x = b at *
    have a1 := as_cs
    have a2 := as_cf
    have a3 := as_cc
    go_enter Tryz.func69, Tryz.ntmps69
    go_wp2_with (go_at_call 69; refine (hB _).mono ?_; rintro e w1 ⟨rfl, b1⟩)
    go_ret
    exact ⟨rfl, below_alloc (Nat.le_refl _) (b1.mono (by simp))⟩
  · have e : askV op vl = .nilIface := by unfold askV; rw [if_neg h1, if_neg h2, if_neg h3, if_neg h4]
    have e2 : holdS op vl x = false := by unfold holdS; rw [if_neg h1, if_neg h2, if_neg h3, if_neg h4]
    rw [e, e2]
    have a1 := as_ns
    have a2 := as_nf
    have a3 := as_nc
    go_enter Tryz.func69, Tryz.ntmps69
    go_wp2
    go_ret
    exact ⟨rfl, (Below.refl _ w).alloc (Nat.le_refl _) _⟩
set_option maxHeartbeats 4000000 in
set_option maxRecDepth 100000 in
theorem Fits_is (v0 v1 : Value) (ms : List Mt) (l : List Lab) (w : World) (h0 : KM.Rd w v0 ms) (h1 : RdL w v1 l) (hm : ms.length ≤ 1099511627776) (hz : ∀ m ∈ ms, m.val.length ≤ 1048576) (hl : l.length ≤ 1099511627776) (hg : ∀ n : B8, (getS n l).1.length ≤ 1048576) :
    Calls Tryz.prog 31 #[v0, v1] w fun e w' => e = .returned (.bool (fitsS ms l)) ∧ Below w.heap.size w w' := by
  obtain ⟨A, c, rfl, hc⟩ := h0.form
  have hGt := fun (n : B8) w1 (hb : Below w.heap.size w w1) => Get_is v1 l n w1 (h1.below hb) (by omega)
  obtain ⟨fr, hfr⟩ : ∃ b, fitsS ms l = b := ⟨_, rfl⟩
  have HF := hid hfr
  rw [hfr]
  clear hfr
  go_enter Tryz.func31, Tryz.ntmps31
  go_wp2_with fail
  go_loopw [11] (fun iv wr => ∃ i : Nat, iv = .int .i64 i ∧ i ≤ ms.length ∧ Below w.heap.size w wr ∧ Hid ((ms.take i).all (fun m => holdS m.op m.val (getS m.name l).1) = true)) (fun iv _ => ms.length - (intOf iv).toNat)
  case atStart => exact ⟨0, rfl, by omega, Below.refl _ _, hid rfl⟩
  case round =>
    obtain ⟨i, rfl, hi, hbw, HA⟩ := hrel
    by_cases hlt : i < ms.length
    · obtain ⟨b, off, rfl, hb, c0, c1, c2⟩ := KM_at h0 hlt
      rw [← hbw.cell (p := ⟨b, off + i * 3, none⟩) hb] at c0
      rw [← hbw.cell (p := ⟨b, off + i * 3 + 1, none⟩) hb] at c1
      rw [← hbw.cell (p := ⟨b, off + i * 3 + 2, none⟩) hb] at c2
      have hx := hz ms[i] (List.getElem_mem hlt)
      have HT : Hid ((ms.take (i + 1)).all (fun m => holdS m.op m.val (getS m.name l).1) = ((ms.take i).all (fun m => holdS m.op m.val (getS m.name l).1) && holdS ms[i].op ms[i].val (getS ms[i].name l).1)) := hid (by rw [List.take_add_one, List.getElem?_eq_getElem hlt]; simp only [Option.toList_some, List.all_append, List.all_cons, List.all_nil, Bool.and_true])
      have HN : Hid (holdS ms[i].op ms[i].val (getS ms[i].name l).1 = false → fr = false) := hid (fun h => by
        rw [← HF.out]
        exact List.all_eq_false.2 ⟨ms[i], List.getElem_mem hlt, by rw [h]; simp⟩)
      clear h0 hz HF
      generalize ms[i] = x at *
      obtain ⟨nm, op, vl⟩ := x
      simp only [] at hx c0 c1 c2 HT HN
      have hgn := hg nm
      have hG2 := fun w1 hb => hGt nm w1 hb
      clear hGt hg
      have bx := hbw.alloc hbw.size (.cells #[.string ⟨nm.toArray⟩, .int .i64 op, .string ⟨vl.toArray⟩] 57)
      have rx := heap_alloc_new wr (.cells #[.string ⟨nm.toArray⟩, .int .i64 op, .string ⟨vl.toArray⟩] 57)
      have zx := (Array.getElem?_eq_some_iff.1 rx).1
      generalize (getS nm l).1 = gv at *
      generalize (getS nm l).2 = gb at *
      have hH := fun w1 => holds_is op vl gv w1 (by omega) (by omega)
      have hAs := fun w1 => asked_is nm vl op w1
      generalize askV op vl = av at *
      cases hh : holdS op vl gv with
      | true =>
        have HA2 : Hid ((ms.take (i + 1)).all (fun m => holdS m.op m.val (getS m.name l).1) = true) := hid (by rw [HT.out, HA.out, hh]; rfl)
        rw [hh] at hH
        clear HT HA HN hh
        go_wp2_with (first
          | (go_at_call 68; refine (hG2 _ bx).mono ?_; rintro e w2 ⟨rfl, b2⟩; clear hG2; have rx2 := (b2.block _ zx).trans rx; have e0 : w2.cell? ⟨wr.heap.size, 0, none⟩ = some (.string ⟨nm.toArray⟩) := held_cell rx2 rfl; have e1 : w2.cell? ⟨wr.heap.size, 1, none⟩ = some (.int .i64 op) := held_cell rx2 rfl; have e2 : w2.cell? ⟨wr.heap.size, 2, none⟩ = some (.string ⟨vl.toArray⟩) := held_cell rx2 rfl; have bt2 := bx.trans (b2.mono bx.size))
          | (go_at_call 70; refine (hAs _).mono ?_; rintro e w3 ⟨rfl, b3⟩; clear hAs; have bt3 := bt2.trans (b3.mono bt2.size))
          | (go_at_call 69; refine (hH _).mono ?_; rintro e w4 ⟨rfl, b4⟩; clear hH; have bt4 := bt3.trans (b4.mono bt3.size)))
        go_roundw
        case rel => exact ⟨i + 1, by go_num, by omega, bt4, HA2⟩
        case measure => simp [intOf]; omega
      | false =>
        have HX := hid (HN.out hh)
        rw [hh] at hH
        clear HT HA HN hh
        go_wp2_with (first
          | (go_at_call 68; refine (hG2 _ bx).mono ?_; rintro e w2 ⟨rfl, b2⟩; clear hG2; have rx2 := (b2.block _ zx).trans rx; have e0 : w2.cell? ⟨wr.heap.size, 0, none⟩ = some (.string ⟨nm.toArray⟩) := held_cell rx2 rfl; have e1 : w2.cell? ⟨wr.heap.size, 1, none⟩ = some (.int .i64 op) := held_cell rx2 rfl; have e2 : w2.cell? ⟨wr.heap.size, 2, none⟩ = some (.string ⟨vl.toArray⟩) := held_cell rx2 rfl; have bt2 := bx.trans (b2.mono bx.size))
          | (go_at_call 70; refine (hAs _).mono ?_; rintro e w3 ⟨rfl, b3⟩; clear hAs; have bt3 := bt2.trans (b3.mono bt2.size))
          | (go_at_call 69; refine (hH _).mono ?_; rintro e w4 ⟨rfl, b4⟩; clear hH; have bt4 := bt3.trans (b4.mono bt3.size)))
        go_ret
        exact ⟨by rw [HX.out]; rfl, bt4⟩
    · have e : ms.take i = ms := List.take_of_length_le (by omega)
      have hA := HA.out
      rw [e] at hA
      have HX : Hid (fr = true) := hid (HF.out.symm.trans hA)
      clear h0 hz HF HA hA
      go_wp2_with fail
      go_ret
      exact ⟨by rw [HX.out]; rfl, hbw⟩
end Go.Proofs.YtlhodanpfpfodaaGreatDoor
namespace Go.Proofs
open Go.Shelf
def Tryz.laysM144_ren : Go.Shelf.Ren := ⟨fun | 144 => 71 | 143 => 100 | 219 => 125 | 217 => 153 | 225 => 154 | 224 => 155 | 267 => 156 | 266 => 178 | 314 => 179 | n => n, fun | 9 => 9 | 4 => 4 | 3 => 3 | 5 => 5 | 46 => 166 | 146 => 218 | 51 => 192 | n => n, fun | 1 => 3 | n => n⟩
theorem Tryz.laysM144 : Go.Proofs.LaysM.n144 Tryz.prog Tryz.laysM144_ren := {
  mixed := by kernel_rfl
  f143 := Tryz.func100.trans (congrArg some (by kernel_rfl))
  f144 := Tryz.func71.trans (congrArg some (by kernel_rfl))
  f217 := Tryz.func153.trans (congrArg some (by kernel_rfl))
  f219 := Tryz.func125.trans (congrArg some (by kernel_rfl))
  f224 := Tryz.func155.trans (congrArg some (by kernel_rfl))
  f225 := Tryz.func154.trans (congrArg some (by kernel_rfl))
  f266 := Tryz.func178.trans (congrArg some (by kernel_rfl))
  f267 := Tryz.func156.trans (congrArg some (by kernel_rfl))
  f314 := Tryz.func179.trans (congrArg some (by kernel_rfl))
  t3 := Tryz.underlying3
  a3 := Tryz.isAgg3
  z3 := Tryz.sizeOf3
  v3 := Tryz.zeroValue3
  t4 := Tryz.underlying4
  a4 := Tryz.isAgg4
  z4 := Tryz.sizeOf4
  v4 := Tryz.zeroValue4
  t5 := Tryz.underlying5
  a5 := Tryz.isAgg5
  z5 := Tryz.sizeOf5
  v5 := Tryz.zeroValue5
  t9 := Tryz.underlying9
  a9 := Tryz.isAgg9
  z9 := Tryz.sizeOf9
  v9 := Tryz.zeroValue9
  t46 := Tryz.underlying166
  a46 := Tryz.isAgg166
  z46 := Tryz.sizeOf166
  v46 := Tryz.zeroValue166
  t51 := Tryz.underlying192
  a51 := Tryz.isAgg192
  z51 := Tryz.sizeOf192
  v51 := Tryz.zeroValue192
  t146 := Tryz.underlying218
  a146 := Tryz.isAgg218
  z146 := Tryz.sizeOf218
  v146 := Tryz.zeroValue218
  g1 := by kernel_rfl
  i3 := by kernel_rfl
  i4 := by kernel_rfl
  i5 := by kernel_rfl
  i9 := by kernel_rfl
  i46 := by kernel_rfl
  i51 := by kernel_rfl
  i146 := by kernel_rfl
  m1 := by kernel_rfl
  s1_3 := fun w h => Go.Proofs.cell_of_shapedOpen_int (zero := #[.int .i64 0]) (t := 3) h (of_decide_eq_true (by kernel_rfl)) (by kernel_rfl) rfl (by kernel_rfl) (by kernel_rfl) Tryz.underlying3 }
end Go.Proofs
namespace Go.Proofs.YtlhodanpfpfodaaGreatDoor
open Go.RowKit Go.Icz
/-- The variable that package bytealg reads holds a number. -/
def MaxAt (w : World) : Prop := ∃ m, w.cell? ⟨3, 0, none⟩ = some (.int .i64 m)
theorem MaxAt.of {w : World} (h : w.ShapedOpen Tryz.prog) : MaxAt w := Tryz.laysM144.s1_3 w h
theorem MaxAt.below {w w' : World} (h : MaxAt w) (h9 : 9 ≤ w.heap.size) (hb : Below w.heap.size w w') : MaxAt w' := by
  obtain ⟨m, hm⟩ := h
  exact ⟨m, (hb.cell (p := ⟨3, 0, none⟩) (by show 3 < _; omega)).trans hm⟩
theorem Contains_is (s t : B8) (w : World) (h : MaxAt w) (hs : s.length < 4294967281) : Calls Tryz.prog 71 #[.string ⟨s.toArray⟩, .string ⟨t.toArray⟩] w fun e w' => e = .returned (.bool (Lib.contains s t)) ∧ w' = w := by
  obtain ⟨m, hm⟩ := h
  exact Any.strings_Contains { Tryz.laysM144 with } ⟨s.toArray⟩ ⟨t.toArray⟩ m w (by rw [Lib.size_mk]; exact hs) hm
/-- An entry as a value. -/
def entV (sq tm : Int) (v1 : Value) (line : B8) : Value := .agg #[.int .i64 sq, .int .i64 tm, v1, .string ⟨line.toArray⟩]
def takesS (q : Qy) (tm : Int) (l : List Lab) (line : B8) : Bool := rightQ q && (decide (q.fr ≤ tm) && decide (tm < q.upto)) && (fitsS q.ms l && Lib.contains line q.has)
theorem four_cells {w : World} {b : Nat} {c0 c1 c2 c3 : Value} {t : TypeId} (h : w.heap[b]? = some (.cells #[c0, c1, c2, c3] t (0, 0))) : w.cell? ⟨b, 0, none⟩ = some c0 ∧ w.cell? ⟨b, 1, none⟩ = some c1 ∧ w.cell? ⟨b, 2, none⟩ = some c2 ∧ w.cell? ⟨b, 3, none⟩ = some c3 :=
  ⟨held_cell h rfl, held_cell h rfl, held_cell h rfl, held_cell h rfl⟩
set_option maxHeartbeats 4000000 in
set_option maxRecDepth 100000 in
theorem Takes_is (v0 v1 : Value) (q : Qy) (sq tm : Int) (l : List Lab) (line : B8) (w : World) (h0 : KM.Rd w v0 q.ms) (h1 : RdL w v1 l) (hm : q.ms.length ≤ 1048576) (hz : ∀ m ∈ q.ms, m.name.length ≤ 1048576 ∧ m.val.length ≤ 1048576) (hh : q.has.length ≤ 1048576) (hl : l.length ≤ 1048576) (hll : ∀ x ∈ l, x.1.length ≤ 1048576 ∧ x.2.length ≤ 1048576) (hln : line.length ≤ 1048576) (hg : ∀ n : B8, (getS n l).1.length ≤ 1048576) (hT : TabsM w) (hX : MaxAt w) (h9 : 9 ≤ w.heap.size) :
    Calls Tryz.prog 32 #[qryV v0 q, entV sq tm v1 line] w fun e w' => e = .returned (.bool (takesS q tm l line)) ∧ Below w.heap.size w w' := by
  obtain ⟨A, c, rfl, hc⟩ := h0.form
  obtain ⟨A1, c1, rfl, hc1⟩ := (show ∃ A c, v1 = .slice A l.length c ∧ l.length ≤ c by obtain ⟨A, c, h, h', _⟩ := h1; exact ⟨A, c, h, h'⟩)
  have hRi := fun w1 (hb : Below w.heap.size w w1) => MRight_is _ q w1 (h0.below hb) (by omega) (fun m h => by have := hz m h; omega) (by omega) (hT.tabs.below hb)
  have hFi := fun w1 (hb : Below w.heap.size w w1) => Fits_is _ _ q.ms l w1 (h0.below hb) (h1.below hb) (by omega) (fun m h => (hz m h).2) (by omega) hg
  have hCo := fun w1 (hb : Below w.heap.size w w1) => Contains_is line q.has w1 (hX.below h9 hb) (by omega)
  have HT : Hid (takesS q tm l line = (rightQ q && (decide (q.fr ≤ tm) && decide (tm < q.upto)) && (fitsS q.ms l && Lib.contains line q.has))) := hid rfl
  unfold qryV entV at *
  have ra := (heap_alloc_old (w.alloc (.cells #[.slice A q.ms.length c, .string ⟨q.has.toArray⟩, .int .i64 q.fr, .int .i64 q.upto, .int .i64 q.lim, .bool q.newest] 40)) (.cells #[.int .i64 sq, .int .i64 tm, .slice A1 l.length c1, .string ⟨line.toArray⟩] 62) (by simp)).trans (heap_alloc_new w (.cells #[.slice A q.ms.length c, .string ⟨q.has.toArray⟩, .int .i64 q.fr, .int .i64 q.upto, .int .i64 q.lim, .bool q.newest] 40))
  have rb := heap_alloc_new (w.alloc (.cells #[.slice A q.ms.length c, .string ⟨q.has.toArray⟩, .int .i64 q.fr, .int .i64 q.upto, .int .i64 q.lim, .bool q.newest] 40)) (.cells #[.int .i64 sq, .int .i64 tm, .slice A1 l.length c1, .string ⟨line.toArray⟩] 62)
  have bb : Below w.heap.size w ((w.alloc (.cells #[.slice A q.ms.length c, .string ⟨q.has.toArray⟩, .int .i64 q.fr, .int .i64 q.upto, .int .i64 q.lim, .bool q.newest] 40)).alloc (.cells #[.int .i64 sq, .int .i64 tm, .slice A1 l.length c1, .string ⟨line.toArray⟩] 62)) := ((Below.refl _ w).alloc (Nat.le_refl _) _).alloc (by simp) _
  rw [show (w.alloc (.cells #[.slice A q.ms.length c, .string ⟨q.has.toArray⟩, .int .i64 q.fr, .int .i64 q.upto, .int .i64 q.lim, .bool q.newest] 40)).heap.size = w.heap.size + 1 by simp] at rb
  have za := (Array.getElem?_eq_some_iff.1 ra).1
  have zb := (Array.getElem?_eq_some_iff.1 rb).1
  clear h0 h1 hz hll
  generalize takesS q tm l line = goal at *
  generalize fitsS q.ms l = fb at *
  generalize Lib.contains line q.has = cb at *
  generalize rightQ q = rq at *
  have hcs : (rq = false ∧ goal = false) ∨ (rq = true ∧ tm < q.fr ∧ goal = false) ∨ (rq = true ∧ q.fr ≤ tm ∧ q.upto ≤ tm ∧ goal = false) ∨ (rq = true ∧ q.fr ≤ tm ∧ tm < q.upto ∧ fb = false ∧ goal = false) ∨ (rq = true ∧ q.fr ≤ tm ∧ tm < q.upto ∧ fb = true ∧ goal = cb) := by
    have := HT.out
    cases rq
    · left; exact ⟨rfl, by rw [this]; rfl⟩
    · by_cases h1 : q.fr ≤ tm
      · by_cases h2 : tm < q.upto
        · cases fb
          · exact .inr (.inr (.inr (.inl ⟨rfl, h1, h2, rfl, by rw [this]; simp⟩)))
          · exact .inr (.inr (.inr (.inr ⟨rfl, h1, h2, rfl, by rw [this, decide_eq_true h1, decide_eq_true h2]; simp⟩)))
        · exact .inr (.inr (.inl ⟨rfl, h1, by omega, by rw [this, decide_eq_false h2]; simp⟩))
      · exact .inr (.inl ⟨rfl, by omega, by rw [this, decide_eq_false h1]; simp⟩)
  clear HT
  go_enter Tryz.func32, Tryz.ntmps32
  go_wp2_with fail
  generalize (w.alloc (.cells #[.slice A q.ms.length c, .string ⟨q.has.toArray⟩, .int .i64 q.fr, .int .i64 q.upto, .int .i64 q.lim, .bool q.newest] 40)).alloc (.cells #[.int .i64 sq, .int .i64 tm, .slice A1 l.length c1, .string ⟨line.toArray⟩] 62) = W1 at *
  obtain ⟨q0, q1, q2, q3, q4, q5⟩ := six_cells ra
  obtain ⟨p0, p1, p2, p3⟩ := four_cells rb
  rcases hcs with ⟨rfl, rfl⟩ | ⟨rfl, k1, rfl⟩ | ⟨rfl, k1, k2, rfl⟩ | ⟨rfl, k1, k2, rfl, rfl⟩ | ⟨rfl, k1, k2, rfl, rfl⟩
  all_goals
    go_wp2_with (first
      | (go_at_call 25; refine (hRi _ bb).mono ?_; rintro e w2 ⟨rfl, b2⟩; clear hRi q0 q1 q2 q3 q4 q5 p0 p1 p2 p3; have bt2 := bb.trans (b2.mono bb.size); have ra2 := (b2.block _ za).trans ra; have rb2 := (b2.block _ zb).trans rb; obtain ⟨q0, q1, q2, q3, q4, q5⟩ := six_cells ra2; obtain ⟨p0, p1, p2, p3⟩ := four_cells rb2; have bt := bt2)
      | (go_at_call 31; refine (hFi _ bt2).mono ?_; rintro e w3 ⟨rfl, b3⟩; clear hFi q0 q1 q2 q3 q4 q5 p0 p1 p2 p3 bt; have bt3 := bt2.trans (b3.mono bt2.size); have zz := b2.size; have ra3 := (b3.block _ (by omega)).trans ra2; have rb3 := (b3.block _ (by omega)).trans rb2; obtain ⟨q0, q1, q2, q3, q4, q5⟩ := six_cells ra3; obtain ⟨p0, p1, p2, p3⟩ := four_cells rb3; have bt := bt3)
      | (go_at_call 71; refine (hCo _ bt3).mono ?_; rintro e w4 ⟨rfl, rfl⟩; clear hCo))
    go_ret
    exact ⟨rfl, bt⟩
end Go.Proofs.YtlhodanpfpfodaaGreatDoor
