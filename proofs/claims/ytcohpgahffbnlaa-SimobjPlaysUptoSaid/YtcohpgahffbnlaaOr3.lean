/-
  The reference's lists of names: one without a name, one with it. Conditions: the lists are no longer than 2^30.
-/
import Derived.Test.YtcohpgahffbnlaaOr2
import Derived.Deep.RegionLaw
namespace Go.Icz
open Go.RowKit
/-- 'append(v, x...)' at a step of a region that draws its order. -/
theorem Kd.step_app {α : Type} {K : Kd α} {P : Program} {ops : Array Oper} {o : Oper} {a : Act} {Kn : Act → World → Prop} {Q : Exit → Act → World → Prop} {E : Prop} {w : World} (hgd : o.guard = none) (s x : Operand) (t : TypeId)
    (ho : o.op = .call { callee := .builtin .append, args := #[s, x], argTypes := #[t, t] }) (ht : P.underlying t = some (.slice K.e)) {zv : Value} {by' : Nat} (info : (P.info? K.e).map (fun i => (i.zero, i.size, i.bytes)) = some (some zv, K.z, by')) (hzs : zv.cells.size = K.z)
    (B : Nat) (v u : Value) (l m : List α) (hs : a.eval s = v) (hown : K.Own w B v l) (hx : a.eval x = u) (hr : K.Rd w u m)
    (hmax : l.length + m.length ≤ maxLen) (hlen : (l.length + m.length) * by' ≤ 140737488355328) (hB : B ≤ w.heap.size)
    (h : ∀ v' w', K.Own w' B v' (l ++ m) → Below B w w' → w.grownBy w' v.ownBlock → Kn (a.put o.dst v') w') :
    if Region.wanted o (yielded ops a.tmps) = true then Oper.wp P o a w Kn Q else E := by
  obtain ⟨v', w', hrun, h1, h2⟩ := Kd.run_app t o.type ht info hzs B v u l m hown hr hmax hlen hB
  exact step_run_app hgd s x t ho v u v' w' hs hx hrun (h v' w' h1 ((Below.refl B w).grown h2 hB (fun k hk => (hown.lt k hk).1)) h2)
theorem Kd.own_empty {α : Type} {K : Kd α} {w : World} {B g : Nat} (h : w.heap[g]? = some (.cells #[] K.e (0, 0))) (hB : B ≤ g) : K.Own w B (.slice (some ⟨g, 0, none⟩) 0 0) [] := by
  refine ⟨by simp [Kd.cells], .inr ⟨g, 0, #[], rfl, hB, h, by simp, by simp, by simp, by simp [Kd.cells]⟩⟩
theorem far_row {w w' : World} {g b : Nat} {cs : Array Value} {t : TypeId} (h : w.grownBy w' (some g)) (hr : w.heap[b]? = some (.cells cs t (0, 0))) (hne : b ≠ g) : w'.heap[b]? = some (.cells cs t (0, 0)) :=
  (Tch.grown h (S := (· = g)) (fun k e => by injection e with e; exact e.symm)).row hr hne
def lwo (l : List ByteArray) (x : ByteArray) : List ByteArray := l.filter fun y => decide (y ≠ x)
def lpl : List ByteArray → ByteArray → Nat
  | [], _ => 0
  | e :: t, x => if blt e x then lpl t x + 1 else 0
theorem lpl_le (l : List ByteArray) (x : ByteArray) : lpl l x ≤ l.length := by
  induction l with
  | nil => exact Nat.le_refl _
  | cons e t ih =>
    unfold lpl
    split
    · exact Nat.succ_le_succ ih
    · exact Nat.zero_le _
theorem lpl_step {l : List ByteArray} {i : Nat} (h : i < l.length) (x : ByteArray) : lpl (l.drop i) x = if blt l[i] x then lpl (l.drop (i + 1)) x + 1 else 0 := by
  rw [List.drop_eq_getElem_cons h]
  rfl
def lwi (l : List ByteArray) (x : ByteArray) : List ByteArray := (lwo l x).take (lpl (lwo l x) x) ++ [x] ++ (lwo l x).drop (lpl (lwo l x) x)
theorem lwo_length (l : List ByteArray) (x : ByteArray) : (lwo l x).length ≤ l.length := List.length_filter_le _ _
theorem lwo_step {l : List ByteArray} {i : Nat} (h : i < l.length) (x : ByteArray) : lwo (l.take (i + 1)) x = lwo (l.take i) x ++ (if l[i] = x then [] else [l[i]]) := by
  rw [(List.take_append_getElem h).symm]
  unfold lwo
  rw [List.filter_append]
  congr 1
  by_cases e : l[i] = x <;> simp [e]
end Go.Icz
namespace Go.Proofs.Ytcohpgahffbnlaa
open Go.RowKit Go.Icz Go.Maps Go.ChangeMaps Go.MapKept
set_option maxRecDepth 100000
set_option maxHeartbeats 4000000
theorem run_topS {A : Option Addr} {n c hi : Nat} (h2 : hi ≤ c) (wx : World) : (Instr.slice 51 (.slice A n c) none (some (.int .i64 (hi : Int))) none).run Try.prog wx = .ok (sliced A 0 hi c 1) wx := by
  have := run_slice_h (P := Try.prog) (w := wx) 51 A n c Try.underlying51 .i64 (hi : Int) (by omega) (by omega)
  rw [this]
  have hz : (sizeOf (Try.prog.elem 51)).run Try.prog wx = .ok 1 wx := by go_simp
  rw [hz]
  simp [Result.andThen]
theorem run_fromS {A : Option Addr} {n c s : Nat} (h : s ≤ n) (wx : World) : (Instr.slice 51 (.slice A n c) (some (.int .i64 (s : Int))) none none).run Try.prog wx = .ok (sliced A s n c 1) wx := by
  have := run_slice_l (P := Try.prog) (w := wx) 51 A n c Try.underlying51 .i64 (s : Int) (by omega) (by omega)
  rw [this]
  have hz : (sizeOf (Try.prog.elem 51)).run Try.prog wx = .ok 1 wx := by go_simp
  rw [hz]
  simp [Result.andThen]
theorem without_is (v : Value) (l : List ByteArray) (x : ByteArray) (w : World) (h : KS.Rd w v l) (hl : l.length ≤ 1073741824) :
    Calls Try.prog 46 #[v, .string x] w fun e w' => ∃ v', e = .returned v' ∧ KS.Own w' w.heap.size v' (lwo l x) ∧ Below w.heap.size w w' := by
  obtain ⟨A, cp, rfl, _⟩ := h.form
  have HR := hid h
  clear h
  go_enter Try.func46, Try.ntmps46
  go_wp2
  go_loopw [5, 6] (fun v iv wr => ∃ i : Nat, iv = .int .i64 i ∧ i ≤ l.length ∧ Hid (KS.Own wr w.heap.size v (lwo (l.take i) x)) ∧ Below w.heap.size w wr) (fun _ iv _ => l.length - (intOf iv).toNat)
  case atStart => exact ⟨0, rfl, Nat.zero_le _, hid (Kd.Own.nil (K := KS) _ _), Below.refl _ _⟩
  case round =>
    obtain ⟨i, hiv, hi, HO, hb⟩ := hrel
    subst hiv
    by_cases hLt : i < l.length
    · have hil : (i : Int) < (l.length : Int) := by omega
      obtain ⟨b, off, hA, hlt, hcl⟩ := ks_at HR.out (by omega)
      subst hA
      have x1 := (hb.cell (p := ⟨b, off + i, none⟩) hlt).trans (hcl i hLt)
      have HL := hid hLt
      have HE := hid (lwo_step hLt x)
      obtain ⟨acc, hacc⟩ : ∃ acc, acc = lwo (l.take i) x := ⟨_, rfl⟩
      have hal : acc.length ≤ i := by
        rw [hacc]
        refine Nat.le_trans (lwo_length _ _) ?_
        rw [List.length_take]
        omega
      rw [← hacc] at HO HE
      have ho := HO.out
      have hmm : acc.length + 1 ≤ maxLen := by have e1 : 1073741825 ≤ maxLen := (by decide); omega
      have hml : (acc.length + 1) * 16 ≤ 140737488355328 := by omega
      have hz := hb.size
      generalize l[i] = ki at *
      clear hcl hacc hLt HO hal
      by_cases e : ki = x
      · subst e
        rw [if_pos rfl, List.append_nil] at HE
        have HO2 := hid ho
        clear ho hmm hml
        go_wp2
        go_roundw
        case rel => exact ⟨i + 1, by go_num, HL.out, hid (by rw [HE.out]; exact HO2.out), hb⟩
        case measure => have := HL.out; simp [intOf]; omega
      · rw [if_neg e] at HE
        have e1 := bstr_neq e
        clear e
        go_wp2_with (at_builtin; refine Kd.wp_app1 (K := KS) rfl (.tmp 19) (.tmp 24) 51 rfl Try.underlying51 infoStrR rfl w.heap.size _ acc ki rfl ho rfl rfl rfl hmm hml hz ?_; intro v6 w6 o6 b6 g6 n6)
        go_roundw
        case rel => exact ⟨i + 1, by go_num, HL.out, hid (by rw [HE.out]; exact o6), hb.trans b6⟩
        case measure => have := HL.out; simp [intOf]; omega
    · have hil : ¬ (i : Int) < (l.length : Int) := by omega
      have hie : i = l.length := by omega
      rw [hie, List.take_length] at HO
      clear hLt hie
      go_wp2
      go_ret
      exact ⟨_, rfl, HO.out, hb⟩
theorem with_is (v : Value) (l : List ByteArray) (x : ByteArray) (w : World) (h : KS.Rd w v l) (hl : l.length ≤ 1073741824) :
    Calls Try.prog 45 #[v, .string x] w fun e w' => ∃ v', e = .returned v' ∧ KS.Own w' w.heap.size v' (lwi l x) ∧ Below w.heap.size w w' := by
  have hW := without_is v l x w h hl
  obtain ⟨S, hS⟩ : ∃ S, S = lwo l x := ⟨_, rfl⟩
  have hSl : S.length ≤ 1073741824 := by rw [hS]; exact Nat.le_trans (lwo_length _ _) hl
  have HT : Hid (lwi l x = S.take (lpl S x) ++ [x] ++ S.drop (lpl S x)) := hid (by rw [hS]; rfl)
  have HPL := hid (lpl_le S x)
  rw [← hS] at hW
  obtain ⟨A0, c0, rfl, _⟩ := h.form
  clear h hl hS
  go_enter Try.func45, Try.ntmps45
  go_wp2_with (go_at_call 46; refine hW.mono ?_; rintro e w1 ⟨v1, rfl, o1, b1⟩; obtain ⟨A, co, rfl, hco⟩ := o1.rd.form; clear hW)
  have HO := hid o1
  clear o1
  go_loopw [5] (fun iv wr => ∃ k : Nat, iv = .int .i64 k ∧ k ≤ S.length ∧ Hid (lpl S x = k + lpl (S.drop k) x) ∧ Below w1.heap.size w1 wr) (fun iv _ => S.length - (intOf iv).toNat)
  case atStart => exact ⟨0, rfl, Nat.zero_le _, hid (by simp), Below.refl _ _⟩
  case round =>
    obtain ⟨k, rfl, hk, HK, hb⟩ := hrel
    have FIN : ∀ w5, Below w1.heap.size w1 w5 → k = lpl S x → True := fun _ _ _ => trivial
    clear FIN
    by_cases hLt : k < S.length ∧ blt (S.getD k ⟨#[]⟩) x = true
    · obtain ⟨hkl, hbl⟩ := hLt
      have hil : (k : Int) < (S.length : Int) := by omega
      obtain ⟨b, off, hA, hlt, hcl⟩ := ks_at HO.out.rd (by omega)
      subst hA
      have hg : S.getD k ⟨#[]⟩ = S[k] := by simp [List.getD, List.getElem?_eq_getElem hkl]
      rw [hg] at hbl
      have x1 := (hb.cell (p := ⟨b, off + k, none⟩) hlt).trans (hcl k hkl)
      have HK2 : Hid (lpl S x = (k + 1) + lpl (S.drop (k + 1)) x) := hid (by rw [HK.out, lpl_step hkl, if_pos hbl]; omega)
      have HL := hid hkl
      have e1 : Go.Op.bytesLess S[k].toList x.toList = true := hbl
      generalize S[k] = kk at *
      clear hcl hbl hg HK hkl
      go_wp2
      go_roundw
      case rel => exact ⟨k + 1, by go_num, HL.out, HK2, hb⟩
      case measure => have := HL.out; simp [intOf]; omega
    · have hkp : lpl S x = k := by
        rw [HK.out]
        by_cases hkl : k < S.length
        · rw [lpl_step hkl, if_neg (fun hb2 => hLt ⟨hkl, by simp [List.getD, List.getElem?_eq_getElem hkl]; exact hb2⟩), Nat.add_zero]
        · rw [List.drop_eq_nil_of_le (by omega)]; rfl
      have HQ : Hid (lwi l x = S.take k ++ [x] ++ S.drop k) := hid (by rw [HT.out, hkp])
      have hTAIL : ∀ w5, Below w1.heap.size w1 w5 → True := fun _ _ => trivial
      clear hTAIL HPL HT HK
      have hO1 := HO.out
      by_cases hkl : k < S.length
      · have hil : (k : Int) < (S.length : Int) := by omega
        obtain ⟨b, off, hA, hlt, hcl⟩ := ks_at HO.out.rd (by omega)
        subst hA
        have x1 := (hb.cell (p := ⟨b, off + k, none⟩) hlt).trans (hcl k hkl)
        have e1 : Go.Op.bytesLess S[k].toList x.toList = false := by
          have := fun hb2 => hLt ⟨hkl, by simp [List.getD, List.getElem?_eq_getElem hkl]; exact hb2⟩
          simpa [blt] using this
        generalize S[k] = kk at *
        clear hcl hLt hkp hkl
        go_wp2_with fail
        have hOw := hO1.below hb
        have hs1 : ∀ wx, (Instr.slice 51 (.slice (some ⟨b, off, none⟩) S.length co) none (some (.int .i64 (k : Int))) none).run Try.prog wx = .ok (sliced (some ⟨b, off, none⟩) 0 k co 1) wx := fun wx => run_topS (hi := k) (by omega) wx
        have hs2 : ∀ wx, (Instr.slice 51 (.slice (some ⟨b, off, none⟩) S.length co) (some (.int .i64 (k : Int))) none none).run Try.prog wx = .ok (sliced (some ⟨b, off, none⟩) k S.length co 1) wx := fun wx => run_fromS (s := k) (by omega) wx
        have r1 := hOw.rd.part 0 k (by omega) (by omega)
        have r2 := hOw.rd.part k S.length (by omega) (Nat.le_refl _)
        rw [Nat.sub_zero, List.drop_zero] at r1
        rw [List.take_of_length_le (by rw [List.length_drop]; omega)] at r2
        change KS.Rd wr (sliced (some ⟨b, off, none⟩) 0 k co 1) _ at r1
        change KS.Rd wr (sliced (some ⟨b, off, none⟩) k S.length co 1) _ at r2
        generalize sliced (some ⟨b, off, none⟩) 0 k co 1 = v1 at *
        generalize sliced (some ⟨b, off, none⟩) k S.length co 1 = v2 at *
        have ht1 : (S.take k).length ≤ S.length := by rw [List.length_take]; omega
        have ht2 : (S.drop k).length ≤ S.length := by rw [List.length_drop]; omega
        generalize S.take k = T1 at *
        generalize S.drop k = T2 at *
        have hwz : w.heap.size ≤ wr.heap.size := Nat.le_trans b1.size hb.size
        have bw : Below w.heap.size w wr := b1.trans (hb.mono b1.size)
        have d5 : Below wr.heap.size wr wr.drew := (Below.refl _ _).drew
        have dA : Below wr.heap.size wr (wr.drew.alloc (.cells #[] 9)) := d5.alloc (Nat.le_refl _) _
        have dX : Below wr.heap.size wr (wr.drew.alloc (.cells #[.string x] 9)) := d5.alloc (Nat.le_refl _) _
        have dB : Below wr.heap.size wr ((wr.drew.alloc (.cells #[] 9)).alloc (.cells #[.string x] 9)) := dA.alloc dA.size _
        have dC : Below wr.heap.size wr ((wr.drew.alloc (.cells #[.string x] 9)).alloc (.cells #[] 9)) := dX.alloc dX.size _
        have mA := Kd.own_empty (K := KS) (heap_alloc_new wr.drew (.cells #[] 9)) (B := wr.heap.size) (Nat.le_refl _)
        have mB := Kd.own_empty (K := KS) (row_alloc (heap_alloc_new wr.drew (.cells #[] 9)) (.cells #[.string x] 9)) (B := wr.heap.size) (Nat.le_refl _)
        have hC0 := heap_alloc_new (wr.drew.alloc (.cells #[.string x] 9)) (.cells #[] 9)
        rw [World.size_alloc] at hC0
        have mC := Kd.own_empty (K := KS) (g := wr.heap.size + 1) hC0 (B := wr.heap.size) (Nat.le_succ _)
        have xB : (((wr.drew.alloc (.cells #[] 9)).alloc (.cells #[.string x] 9))).heap[wr.heap.size + 1]? = some (.cells #[.string x] 9 (0, 0)) := by
          have := heap_alloc_new (wr.drew.alloc (.cells #[] 9)) (.cells #[.string x] 9)
          rwa [World.size_alloc] at this
        have xC := row_alloc (heap_alloc_new wr.drew (.cells #[.string x] 9)) (.cells #[] 9)
        have hneB : wr.heap.size + 1 ≠ wr.heap.size := by omega
        have hneC : wr.heap.size ≠ wr.heap.size + 1 := by omega
        have hone : ∀ (W6 : World) (nx : Nat), W6.heap[nx]? = some (.cells #[.string x] 9 (0, 0)) → KS.Rd W6 (.slice (some ⟨nx, 0, none⟩) 1 1) [x] := fun W6 nx hx => ⟨_, 1, rfl, by simp, fun _ => ⟨nx, 0, rfl, row_lt hx, fun j u hu => by
          rw [KS_cells] at hu
          rw [Nat.zero_add]
          exact held_cell hx (by simpa using hu)⟩⟩
        clear hOw hO1
        go_region_law (first
          | (refine Kd.step_app (K := KS) (w := wr.drew.alloc (.cells #[] 9)) rfl (.tmp 23) (.tmp 26) 51 rfl Try.underlying51 infoStrR rfl wr.heap.size (.slice (some ⟨wr.heap.size, 0, none⟩) 0 0) v1 [] T1 rfl mA rfl (r1.below dA) (by simp; unfold maxLen; omega) (by simp; omega) dA.size ?_; intro v6 w6 o6 b6 g6; have c6 := dA.trans b6; have hO2 := o6.alloc (.cells #[.string x] 9); have hX2 := hone _ _ (heap_alloc_new w6 (.cells #[.string x] 9)); have c2 := c6.alloc c6.size (.cells #[.string x] 9))
          | (refine Kd.step_app (K := KS) (w := (wr.drew.alloc (.cells #[] 9)).alloc (.cells #[.string x] 9)) rfl (.tmp 23) (.tmp 26) 51 rfl Try.underlying51 infoStrR rfl wr.heap.size (.slice (some ⟨wr.heap.size, 0, none⟩) 0 0) v1 [] T1 rfl mB rfl (r1.below dB) (by simp; unfold maxLen; omega) (by simp; omega) dB.size ?_; intro v6 w6 o6 b6 g6; have c2 := dB.trans b6; have hO2 := o6; have hX2 := hone _ _ (far_row (g := wr.heap.size) g6 xB hneB))
          | (refine Kd.step_app (K := KS) (w := (wr.drew.alloc (.cells #[.string x] 9)).alloc (.cells #[] 9)) rfl (.tmp 23) (.tmp 26) 51 rfl Try.underlying51 infoStrR rfl wr.heap.size (.slice (some ⟨wr.heap.size + 1, 0, none⟩) 0 0) v1 [] T1 rfl mC rfl (r1.below dC) (by simp; unfold maxLen; omega) (by simp; omega) dC.size ?_; intro v6 w6 o6 b6 g6; have c2 := dC.trans b6; have hO2 := o6; have hX2 := hone _ _ (far_row (g := wr.heap.size + 1) g6 xC hneC))
          | (refine Kd.step_app (K := KS) rfl (.tmp 27) (.tmp 29) 51 rfl Try.underlying51 infoStrR rfl wr.heap.size _ _ _ [x] rfl hO2 rfl hX2 (by simp; unfold maxLen; omega) (by simp; omega) c2.size ?_; intro v7 w7 o7 b7 g7; have c7 := c2.trans b7)
          | (refine Kd.step_app (K := KS) rfl (.tmp 30) (.tmp 33) 51 rfl Try.underlying51 infoStrR rfl wr.heap.size _ v2 _ T2 rfl o7 rfl (r2.below c7) (by simp; unfold maxLen; omega) (by simp; omega) c7.size ?_; intro v8 w8 o8 b8 g8; have c8 := c7.trans b8))
        all_goals (
          go_wp2_with fail
          go_ret
          exact ⟨_, rfl, by rw [HQ.out]; have o9 := o8.mono hwz; rwa [List.nil_append] at o9, bw.trans (c8.mono bw.size)⟩)
      · have hil : ¬ (k : Int) < (S.length : Int) := by omega
        clear hLt hkp hkl
        go_wp2_with fail
        have hOw := hO1.below hb
        have hs1 : ∀ wx, (Instr.slice 51 (.slice (A) S.length co) none (some (.int .i64 (k : Int))) none).run Try.prog wx = .ok (sliced (A) 0 k co 1) wx := fun wx => run_topS (hi := k) (by omega) wx
        have hs2 : ∀ wx, (Instr.slice 51 (.slice (A) S.length co) (some (.int .i64 (k : Int))) none none).run Try.prog wx = .ok (sliced (A) k S.length co 1) wx := fun wx => run_fromS (s := k) (by omega) wx
        have r1 := hOw.rd.part 0 k (by omega) (by omega)
        have r2 := hOw.rd.part k S.length (by omega) (Nat.le_refl _)
        rw [Nat.sub_zero, List.drop_zero] at r1
        rw [List.take_of_length_le (by rw [List.length_drop]; omega)] at r2
        change KS.Rd wr (sliced (A) 0 k co 1) _ at r1
        change KS.Rd wr (sliced (A) k S.length co 1) _ at r2
        generalize sliced (A) 0 k co 1 = v1 at *
        generalize sliced (A) k S.length co 1 = v2 at *
        have ht1 : (S.take k).length ≤ S.length := by rw [List.length_take]; omega
        have ht2 : (S.drop k).length ≤ S.length := by rw [List.length_drop]; omega
        generalize S.take k = T1 at *
        generalize S.drop k = T2 at *
        have hwz : w.heap.size ≤ wr.heap.size := Nat.le_trans b1.size hb.size
        have bw : Below w.heap.size w wr := b1.trans (hb.mono b1.size)
        have d5 : Below wr.heap.size wr wr.drew := (Below.refl _ _).drew
        have dA : Below wr.heap.size wr (wr.drew.alloc (.cells #[] 9)) := d5.alloc (Nat.le_refl _) _
        have dX : Below wr.heap.size wr (wr.drew.alloc (.cells #[.string x] 9)) := d5.alloc (Nat.le_refl _) _
        have dB : Below wr.heap.size wr ((wr.drew.alloc (.cells #[] 9)).alloc (.cells #[.string x] 9)) := dA.alloc dA.size _
        have dC : Below wr.heap.size wr ((wr.drew.alloc (.cells #[.string x] 9)).alloc (.cells #[] 9)) := dX.alloc dX.size _
        have mA := Kd.own_empty (K := KS) (heap_alloc_new wr.drew (.cells #[] 9)) (B := wr.heap.size) (Nat.le_refl _)
        have mB := Kd.own_empty (K := KS) (row_alloc (heap_alloc_new wr.drew (.cells #[] 9)) (.cells #[.string x] 9)) (B := wr.heap.size) (Nat.le_refl _)
        have hC0 := heap_alloc_new (wr.drew.alloc (.cells #[.string x] 9)) (.cells #[] 9)
        rw [World.size_alloc] at hC0
        have mC := Kd.own_empty (K := KS) (g := wr.heap.size + 1) hC0 (B := wr.heap.size) (Nat.le_succ _)
        have xB : (((wr.drew.alloc (.cells #[] 9)).alloc (.cells #[.string x] 9))).heap[wr.heap.size + 1]? = some (.cells #[.string x] 9 (0, 0)) := by
          have := heap_alloc_new (wr.drew.alloc (.cells #[] 9)) (.cells #[.string x] 9)
          rwa [World.size_alloc] at this
        have xC := row_alloc (heap_alloc_new wr.drew (.cells #[.string x] 9)) (.cells #[] 9)
        have hneB : wr.heap.size + 1 ≠ wr.heap.size := by omega
        have hneC : wr.heap.size ≠ wr.heap.size + 1 := by omega
        have hone : ∀ (W6 : World) (nx : Nat), W6.heap[nx]? = some (.cells #[.string x] 9 (0, 0)) → KS.Rd W6 (.slice (some ⟨nx, 0, none⟩) 1 1) [x] := fun W6 nx hx => ⟨_, 1, rfl, by simp, fun _ => ⟨nx, 0, rfl, row_lt hx, fun j u hu => by
          rw [KS_cells] at hu
          rw [Nat.zero_add]
          exact held_cell hx (by simpa using hu)⟩⟩
        clear hOw hO1
        go_region_law (first
          | (refine Kd.step_app (K := KS) (w := wr.drew.alloc (.cells #[] 9)) rfl (.tmp 23) (.tmp 26) 51 rfl Try.underlying51 infoStrR rfl wr.heap.size (.slice (some ⟨wr.heap.size, 0, none⟩) 0 0) v1 [] T1 rfl mA rfl (r1.below dA) (by simp; unfold maxLen; omega) (by simp; omega) dA.size ?_; intro v6 w6 o6 b6 g6; have c6 := dA.trans b6; have hO2 := o6.alloc (.cells #[.string x] 9); have hX2 := hone _ _ (heap_alloc_new w6 (.cells #[.string x] 9)); have c2 := c6.alloc c6.size (.cells #[.string x] 9))
          | (refine Kd.step_app (K := KS) (w := (wr.drew.alloc (.cells #[] 9)).alloc (.cells #[.string x] 9)) rfl (.tmp 23) (.tmp 26) 51 rfl Try.underlying51 infoStrR rfl wr.heap.size (.slice (some ⟨wr.heap.size, 0, none⟩) 0 0) v1 [] T1 rfl mB rfl (r1.below dB) (by simp; unfold maxLen; omega) (by simp; omega) dB.size ?_; intro v6 w6 o6 b6 g6; have c2 := dB.trans b6; have hO2 := o6; have hX2 := hone _ _ (far_row (g := wr.heap.size) g6 xB hneB))
          | (refine Kd.step_app (K := KS) (w := (wr.drew.alloc (.cells #[.string x] 9)).alloc (.cells #[] 9)) rfl (.tmp 23) (.tmp 26) 51 rfl Try.underlying51 infoStrR rfl wr.heap.size (.slice (some ⟨wr.heap.size + 1, 0, none⟩) 0 0) v1 [] T1 rfl mC rfl (r1.below dC) (by simp; unfold maxLen; omega) (by simp; omega) dC.size ?_; intro v6 w6 o6 b6 g6; have c2 := dC.trans b6; have hO2 := o6; have hX2 := hone _ _ (far_row (g := wr.heap.size + 1) g6 xC hneC))
          | (refine Kd.step_app (K := KS) rfl (.tmp 27) (.tmp 29) 51 rfl Try.underlying51 infoStrR rfl wr.heap.size _ _ _ [x] rfl hO2 rfl hX2 (by simp; unfold maxLen; omega) (by simp; omega) c2.size ?_; intro v7 w7 o7 b7 g7; have c7 := c2.trans b7)
          | (refine Kd.step_app (K := KS) rfl (.tmp 30) (.tmp 33) 51 rfl Try.underlying51 infoStrR rfl wr.heap.size _ v2 _ T2 rfl o7 rfl (r2.below c7) (by simp; unfold maxLen; omega) (by simp; omega) c7.size ?_; intro v8 w8 o8 b8 g8; have c8 := c7.trans b8))
        all_goals (
          go_wp2_with fail
          go_ret
          exact ⟨_, rfl, by rw [HQ.out]; have o9 := o8.mono hwz; rwa [List.nil_append] at o9, bw.trans (c8.mono bw.size)⟩)
end Go.Proofs.Ytcohpgahffbnlaa
