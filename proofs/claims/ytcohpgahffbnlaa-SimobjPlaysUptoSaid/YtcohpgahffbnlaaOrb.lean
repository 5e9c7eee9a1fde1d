/-
  The reference's Put of an object that is there. Conditions: those that each theorem names.
-/
import Derived.Test.YtcohpgahffbnlaaOra
namespace Go.Icz
open Go.RowKit
theorem rd_tch {α : Type} {K : Kd α} {S : Nat → Prop} {w w' : World} {v : Value} {l : List α} (h : K.Rd w v l) (t : Tch S w w') (hS : 0 < l.length → ∀ b, v.ownBlock = some b → ¬ S b) : K.Rd w' v l := by
  obtain ⟨A, c, rfl, hc, hr⟩ := h
  refine ⟨A, c, rfl, hc, fun h0 => ?_⟩
  obtain ⟨b, off, rfl, hb, hcell⟩ := hr h0
  exact ⟨b, off, rfl, by have := t.size; omega, fun j u hj => (t.cell hb (hS h0 b rfl)).trans (hcell j u hj)⟩
end Go.Icz
namespace Go.Proofs.Ytcohpgahffbnlaa
open Go.RowKit Go.Icz Go.Maps Go.ChangeMaps Go.MapKept
set_option maxRecDepth 100000
set_option maxHeartbeats 8000000
variable {w : World} {T : Nat → Prop} {r : Nat} {lv cv : Value} {xs : List OV} {M : SM} {c : Nat}
/-- The cell of an object's bytes. -/
theorem Rf.bytesCell {gl cp : Nat} (h : Rf w T r (.slice (some ⟨gl, 0, none⟩) xs.length cp) cv xs M) {i : Nat} (hi : i < xs.length) : w.cell? ⟨gl, i * 2 + 1, none⟩ = some (.slice xs[i].A xs[i].n xs[i].c) ∧ w.frozen? ⟨gl, i * 2 + 1, none⟩ = false := by
  have h1 := h.lo
  unfold Kd.Own at h1
  refine ⟨?_, h1.frozenAt _⟩
  rw [h1.cellAt (i * 2 + 1) (by show i * 2 + 1 < xs.length * 2; omega)]
  have := Kd.cells_get (K := KRO) xs i hi 1 (by decide)
  exact this
theorem RPut_set (h : Rf w T r lv cv xs M) (hwf : WfS M c) (hT : ∀ k, w.heap.size ≤ k → T k) (k : ByteArray) (hk : k.size ≤ 9223372036854775807) {A1 : Option Addr} {C1 : Nat} {l : List Nat} (hv : KB.Rd w (.slice A1 l.length C1) l) (hfar : 0 < l.length → ∀ g, (Value.slice A1 l.length C1).ownBlock = some g → ¬ T g) (hlm : l.length ≤ 1048576) (hb : nameB k = true) (ho : okS M = true) (hf : (rfind M.L k).2 = true) :
    Calls Try.prog 17 #[.pointer (some ⟨r, 0, none⟩), .string k, .slice A1 l.length C1] w fun e w' => e = .returned (.int .i64 (errS M)) ∧ ∃ lv' cv' xs', Rf w' T r lv' cv' xs' { askS M with L := M.L.set (rfind M.L k).1 (k, l) } ∧ Tch T w w' := by
  have hTr := h.tr
  have hFi := Find_is h k hwf.ln
  have hF := fun w1 => fine_is k w1 hk
  obtain ⟨hi, hki⟩ := rfind_there M.L k hf
  have hix : (rfind M.L k).1 < xs.length := by rw [h.ob.1]; exact hi
  have hxk : ∀ hh : (rfind M.L k).1 < xs.length, k = (xs[(rfind M.L k).1]'hh).k := fun hh => hki.symm.trans (h.ob.2 _ hh hi).1.symm
  obtain ⟨gl, cp, rfl, hcp⟩ := own_form h.lo (by omega)
  have HR : Hid (∀ w1 w2, Below w.heap.size w w1 → Tch (fun _ => False) w1 w2 → Rf w2 T r (.slice (some ⟨gl, 0, none⟩) xs.length cp) cv xs M ∧ w2.cell? ⟨r, 4, none⟩ = some (.slice (some ⟨gl, 0, none⟩) xs.length cp)) := hid (fun w1 w2 b t => by
    have R := (h.below b).far t (fun _ h => h.elim)
    exact ⟨R, held_cell R.r_ rfl⟩)
  have hC := fun w2 (R2 : Rf w2 T r (.slice (some ⟨gl, 0, none⟩) xs.length cp) cv xs M) => Rcall_is R2 hwf
  have HTB : Hid (∀ w1, Below w.heap.size w w1 → Tch T w w1) := hid (fun w1 b => Tch.of_below b)
  have hb2 : 1 ≤ k.size ∧ begB k = true := by unfold nameB at hb; rw [Bool.and_eq_true, decide_eq_true_eq] at hb; exact hb
  rw [hb2.2] at hF
  obtain ⟨n1, n2, n3⟩ := nil_no hb2.1
  have d : decide (1048576 < (l.length : Int)) = false := decide_eq_false (by omega)
  rw [ho] at hC
  rw [hf] at hFi
  have HV := hid hv
  have HFR := hid hfar
  have HTT := hid hT
  have HXK := hid hxk
  have hixI : ((rfind M.L k).1 : Int) < (xs.length : Int) := by omega
  generalize errS M = er at *
  have HIX := hid hix
  have HLM := hid hlm
  clear hf hb hb2 ho hi hki hxk hv hfar hT h hwf
  generalize (rfind M.L k).1 = ix at *
  clear hix
  obtain ⟨nl, hnl⟩ : ∃ nl, nl = l.length := ⟨_, rfl⟩
  have HNL := hid hnl
  rw [← hnl] at d hlm
  rw [← hnl]
  clear hnl
  go_enter Try.func17, Try.ntmps17
  go_upto_region 12 with (first
    | (go_at_call 29; refine hFi.mono ?_; rintro e w1 ⟨rfl, b1⟩; clear hFi)
    | (go_at_call 42; refine (hF _).mono ?_; rintro e w2 ⟨rfl, t2⟩; obtain ⟨R2, c4⟩ := HR.out _ _ b1 t2; clear hF HR)
    | (go_at_call 43; refine (hC _ R2).mono ?_; rintro e w3 ⟨rfl, R3, t3⟩; clear hC))
  have hnl := HNL.out
  subst hnl
  have t03 : Hid (Tch T w w3) := hid (((HTB.out _ b1).trans (t2.mono (fun _ h => h.elim))).trans (t3.mono (fun j hj => by rw [hj]; exact hTr)))
  clear c4 R2 b1 t2 t3 HTB
  have hT3 : Hid (∀ j, w3.heap.size ≤ j → T j) := hid (fun j hj => HTT.out j (Nat.le_trans t03.out.size hj))
  have rb := rd_tch HV.out t03.out HFR.out
  have CELL : Hid (∀ wx, Below w3.heap.size w3 wx → wx.cell? ⟨r, 4, none⟩ = some (.slice (some ⟨gl, 0, none⟩) xs.length cp)) := hid (fun wx b => held_cell (R3.below b).r_ rfl)
  have dA : Below w3.heap.size w3 ((w3.drew).alloc (.cells #[] 5)) := (Below.refl _ _).drew.alloc (Nat.le_refl _) _
  have mA := Kd.own_empty (K := KB) (heap_alloc_new w3.drew (.cells #[] 5)) (B := w3.heap.size) (Nat.le_refl _)
  have hk0 := CELL.out w3.drew (Below.refl _ _).drew
  have hk1 := CELL.out _ dA
  have rbA := rb.below dA
  have HR3 := hid R3
  have hl1 : ([] : List Nat).length + l.length ≤ maxLen := by have := HLM.out; simp; unfold maxLen; omega
  have hl2 : (([] : List Nat).length + l.length) * 1 ≤ 140737488355328 := by have := HLM.out; simp; omega
  have hB := dA.size
  clear R3 rb
  go_region_held3 (fun w' => w'.cell? ⟨r, 4, none⟩ = some (.slice (some ⟨gl, 0, none⟩) xs.length cp)) (first | exact hk3 | exact hk2 | exact hk1 | exact hk0) (first
    | (refine Kd.step_app (K := KB) (w := (w3.drew).alloc (.cells #[] 5)) rfl (.tmp 54) (.tmp 55) 32 rfl Try.underlying32 infoB rfl w3.heap.size (.slice (some ⟨w3.heap.size, 0, none⟩) 0 0) (.slice A1 l.length C1) [] l rfl mA rfl rbA hl1 hl2 hB ?_; intro v6 w6 o6 b6 g6; have c6 := dA.trans b6; have R6 := HR3.out.below c6; have hk2 := CELL.out _ c6; obtain ⟨A7, k7, hv7, _⟩ := o6.rd.form; subst hv7; obtain ⟨e1, e2⟩ := R6.bytesCell HIX.out; rw [List.nil_append] at o6; have P9 := R6.put1 rfl HIX.out (HXK.out HIX.out) (Kd.Own.mono o6 (Nat.zero_le _)) (fun b hb => hT3.out b (o6.lt b hb).1) (M' := { askS M with L := M.L.set ix (k, l) }) rfl rfl rfl; have hk3 := (held_cell (i := 4) P9.1.r_ rfl : World.cell? _ ⟨r, 4, none⟩ = some (.slice (some ⟨gl, 0, none⟩) xs.length cp))))
  go_wp2_with fail
  go_ret
  exact ⟨rfl, ⟨_, _, _, P9.1⟩, t03.out.trans ((Tch.of_below c6).trans P9.2)⟩
end Go.Proofs.Ytcohpgahffbnlaa
