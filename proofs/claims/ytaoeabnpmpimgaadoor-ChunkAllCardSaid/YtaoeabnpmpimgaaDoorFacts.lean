/-
  Small facts on memory, the tables of package utf8, and append of labels. Conditions: those that each theorem names.
  What label.Name answers. Conditions: none.
  Labels that may be: how long they are. No condition.
-/
import Derived.Test.YtaoeabnpmpimgaaDoorProg
import Derived.Test.YtaoeabnpmpimgaaDoorBase
import Derived.Test.YtaoeabnpmpimgaaDoorShelf
import Derived.WalkKit
import Derived.ProofKit
import Derived.Outline
import Derived.Lib.OthersKept
import Derived.ScopeJumps
import Derived.WalkMore
import Derived.OwnWalk
import Derived.BigCall
import Derived.Test.YtaoeabnpmpimgaaDoorText
import Derived.Test.YtaoeabnpmpimgaaDoorOrder
section
namespace Go.Proofs.YtaoeabnpmpimgaaDoor
open Go.RowKit Go.Icz
/-- The tables of package utf8 are in place. -/
structure Tabs (w : World) : Prop where
  utf8 : Lib.Utf8Tabs 1 2 w
theorem Tabs.below {w w' : World} (h : Tabs w) (hb : Below w.heap.size w w') : Tabs w' := by
  have c : ∀ p v, w.cell? p = some v → w'.cell? p = some v := fun p v hc => (hb.cell (World.block_lt_of_cell? w p hc)).trans hc
  exact ⟨⟨fun k hk => c _ _ (h.utf8.1 k hk), fun i hi => ⟨c _ _ (h.utf8.2 i hi).1, c _ _ (h.utf8.2 i hi).2⟩⟩⟩
theorem std : Std Tryd.prog := ⟨Tryd.underlying66, Tryd.underlying5, Tryd.underlying9, by kernel_rfl⟩
theorem held_cell {w : World} {b i : Nat} {cs : Array Value} {t : TypeId} {v : Value} (h : w.heap[b]? = some (.cells cs t (0, 0))) (hv : cs[i]? = some v) : w.cell? ⟨b, i, none⟩ = some v := by
  rw [cell_of_row _ _ _ _ _ _ h]
  exact hv
theorem held_frozen {w : World} {b i : Nat} {cs : Array Value} {t : TypeId} (h : w.heap[b]? = some (.cells cs t (0, 0))) : w.frozen? ⟨b, i, none⟩ = false := by simp [World.frozen?, h]
theorem set_cells {w : World} {b : Nat} {u v : Value} {t : TypeId} (h : w.heap[b]? = some (.cells #[u, v] t (0, 0))) (x y : Value) :
    (w.setCell ⟨b, 0, none⟩ x).cell? ⟨b, 0, none⟩ = some x ∧ ((w.setCell ⟨b, 0, none⟩ x).setCell ⟨b, 1, none⟩ y).cell? ⟨b, 1, none⟩ = some y := by
  constructor
  · simp [World.setCell, World.cell?, Array.getElem?_modify, h]
  · simp [World.setCell, World.cell?, Array.getElem?_modify, h]
theorem infoLab : (Tryd.prog.info? 65).map (fun i => (i.zero, i.size, i.bytes)) = some (some (.agg #[.string ⟨#[]⟩, .string ⟨#[]⟩]), 2, 32) := by kernel_rfl
set_option maxRecDepth 100000 in
/-- 'append(v, x...)', x labels that can be read. -/
theorem wp_appL {ops : Array Oper} {rest : List Oper} {o : Oper} {a : Act} {Q : Exit → Act → World → Prop} {w : World} (hgd : o.guard = none) (s x : Operand)
    (ho : o.op = .call { callee := .builtin .append, args := #[s, x], argTypes := #[32, 32] })
    (B : Nat) (v u : Value) (l m : List Lab) (hs : a.eval s = v) (hown : OwnL w B v l) (hx : a.eval x = u) (hr : RdL w u m)
    (hlen : (l.length + m.length) * 32 ≤ 140737488355328) (hB : B ≤ w.heap.size)
    (h : ∀ v' w', OwnL w' B v' (l ++ m) → Below B w w' → (v ≠ .slice none 0 0 → v' ≠ .slice none 0 0) → wpList Tryd.prog ops Q rest (a.put o.dst v') w') :
    wpList Tryd.prog ops Q (o :: rest) a w := by
  obtain ⟨i0, hi, hz0, hz1, hz2⟩ := info_parts infoLab
  obtain ⟨A, c, rfl, hc, hcell⟩ := hr
  rcases A with _ | ad
  · have hm : m = [] := by
      rcases Nat.eq_zero_or_pos m.length with h0 | h0
      · exact List.eq_nil_of_length_eq_zero h0
      · obtain ⟨b, off, e, _⟩ := hcell h0
        cases e
    subst hm
    refine wpList_plain hgd fun K hK => ?_
    unfold Oper.wp execOp
    have hrun : (Builtin.append_ #[32, 32] o.type #[v, .slice none 0 c]).run Tryd.prog w = .ok v w := by
      rcases hown.2 with ⟨rfl, _⟩ | ⟨g, cap, cur, rfl, _, _, hnc, _⟩
      · simp [Builtin.append_, run_underlying Tryd.underlying32, Go.sizeOf, typeInfo, hi, Builtin.lenOf, Builtin.firstCells]
      · simp [Builtin.append_, run_underlying Tryd.underlying32, Go.sizeOf, typeInfo, hi, Builtin.lenOf, Builtin.firstCells, hnc, storeCells]
    simp only [ho, resolve, invoke, builtin, Sem.run_bind, Sem.run_pure, Result.andThen_ok, List.map_toArray, List.map_cons, List.map_nil, hs, hx, List.length_nil, hrun]
    exact hK _ _ (h v w (by simpa using hown) (Below.refl _ _) (fun h => h))
  · refine wpList_append_own _ hgd s x 32 ho B 65 i0 (.agg #[.string ⟨#[]⟩, .string ⟨#[]⟩]) 2 32 Tryd.underlying32 hi hz0 hz1 hz2 rfl (by decide) v l.length (cellsL l) hs hown ad m.length c (cellsL m) hx (cellsL_len m) ?_ (cellsL_one m) ?_ hlen hB ?_
    · intro j u hu
      have hj : j < m.length * 2 := by rw [← cellsL_len]; exact (List.getElem?_eq_some_iff.1 hu).1
      obtain ⟨b, off, e, _, hcc⟩ := hcell (by omega)
      injection e with e
      subst e
      have hh := hcc (j / 2) (by omega)
      have hg := cellsL_get m (j / 2) (by omega)
      rw [add_flat]
      rcases Nat.mod_two_eq_zero_or_one j with e2 | e2
      · rw [show j = j / 2 * 2 by omega] at hu ⊢
        rw [hg.1] at hu
        rw [← hu]
        exact hh.1
      · rw [show j = j / 2 * 2 + 1 by omega] at hu ⊢
        rw [hg.2] at hu
        rw [← hu, ← Nat.add_assoc]
        exact hh.2
    · unfold maxLen; omega
    · intro v' w' h1 h2 h3
      refine h v' w' (by unfold OwnL; rw [cellsL_app, List.length_append]; exact h1) ((Below.refl B w).grown h2 hB (fun k hk => (World.ownsRow.lt hown k hk).1)) (fun hv e => hv (h3.1 e).1)
theorem OwnL.made (w : World) {B : Nat} (hB : B ≤ w.heap.size) : OwnL (w.alloc (.cells #[] 65)) B (.slice (some ⟨w.heap.size, 0, none⟩) 0 0) [] :=
  World.ownsRow_made w #[] 0 hB (by decide) rfl
end Go.Proofs.YtaoeabnpmpimgaaDoor
end
section
namespace Go.Proofs.YtaoeabnpmpimgaaDoor
open Go.RowKit Go.Icz

theorem drop_cons {s : ByteArray} {pos : Nat} (h : pos < s.size) : s.data.toList.drop pos = s[pos] :: s.data.toList.drop (pos + 1) := by
  have h' : pos < s.data.toList.length := by rw [Array.length_toList]; exact h
  rw [List.drop_eq_getElem_cons h']
  rfl
theorem drop_end {s : ByteArray} {pos : Nat} (h : ¬ pos < s.size) : s.data.toList.drop pos = [] := by
  apply List.drop_eq_nil_of_le
  rw [Array.length_toList]
  exact Nat.le_of_not_lt h
theorem size_len (s : ByteArray) : s.data.toList.length = s.size := by rw [Array.length_toList]; rfl

/-- One rune of a name. -/
theorem nameTail_step (s : ByteArray) (pos : Nat) (h : pos < s.size) :
    (((97 ≤ ((Utf8.decode s pos).1 : Int) ∧ ((Utf8.decode s pos).1 : Int) ≤ 122) ∨ (65 ≤ ((Utf8.decode s pos).1 : Int) ∧ ((Utf8.decode s pos).1 : Int) ≤ 90) ∨ (Utf8.decode s pos).1 = 95) ∧ (Utf8.decode s pos).2 = 1 ∧
      Hid (nameTail pos (s.data.toList.drop pos) = nameTail (pos + 1) (s.data.toList.drop (pos + 1)))) ∨
    (¬ ((97 ≤ ((Utf8.decode s pos).1 : Int) ∧ ((Utf8.decode s pos).1 : Int) ≤ 122) ∨ (65 ≤ ((Utf8.decode s pos).1 : Int) ∧ ((Utf8.decode s pos).1 : Int) ≤ 90) ∨ (Utf8.decode s pos).1 = 95) ∧ ((48 ≤ ((Utf8.decode s pos).1 : Int) ∧ ((Utf8.decode s pos).1 : Int) ≤ 57)) ∧ (Utf8.decode s pos).2 = 1 ∧
      Hid (nameTail pos (s.data.toList.drop pos) = (decide (pos ≠ 0) && nameTail (pos + 1) (s.data.toList.drop (pos + 1))))) ∨
    (¬ ((97 ≤ ((Utf8.decode s pos).1 : Int) ∧ ((Utf8.decode s pos).1 : Int) ≤ 122) ∨ (65 ≤ ((Utf8.decode s pos).1 : Int) ∧ ((Utf8.decode s pos).1 : Int) ≤ 90) ∨ (Utf8.decode s pos).1 = 95) ∧ ¬ (48 ≤ ((Utf8.decode s pos).1 : Int) ∧ ((Utf8.decode s pos).1 : Int) ≤ 57) ∧
      Hid (nameTail pos (s.data.toList.drop pos) = false)) := by
  rw [drop_cons h]
  by_cases ha : (s[pos]'h).toNat < 128
  · rw [decode_ascii s pos h ha]
    by_cases hl : letter (s[pos]'h).toNat = true
    · refine .inl ⟨?_, rfl, hid (by simp [nameTail, hl])⟩
      simp [letter] at hl
      simp only
      omega
    · have hl' : letter (s[pos]'h).toNat = false := by simpa using hl
      simp only [letter, Bool.or_eq_true, decide_eq_true_eq] at hl
      by_cases hd : digit (s[pos]'h).toNat = true
      · refine .inr (.inl ⟨?_, ?_, rfl, hid (by simp [nameTail, hl', hd])⟩)
        · simp only; omega
        · simp [digit] at hd; simp only; omega
      · refine .inr (.inr ⟨?_, ?_, hid (by simp [nameTail, hl', (by simpa using hd : digit (s[pos]'h).toNat = false)])⟩)
        · simp only; omega
        · simp only [digit, decide_eq_true_eq] at hd; simp only; omega
  · have h1 := decode_high s pos h (by omega)
    refine .inr (.inr ⟨by omega, by omega, hid ?_⟩)
    have e1 : letter (s[pos]'h).toNat = false := by simp [letter]; omega
    have e2 : digit (s[pos]'h).toNat = false := by simp [digit]; omega
    simp [nameTail, e1, e2]

set_option maxHeartbeats 1000000 in
set_option maxRecDepth 100000 in
theorem Name_is (s : ByteArray) (w : World) (hs : s.size ≤ 9223372036854775807) :
    Calls Tryd.prog 64 #[.string s] w fun e w' => e = .returned (.bool (nameS s.data.toList)) ∧ Below w.heap.size w w' := by
  by_cases h1 : 1 ≤ s.size ∧ s.size ≤ 64
  · have HN : Hid (nameS s.data.toList = nameTail 0 s.data.toList) := hid (by simp [nameS, h1])
    obtain ⟨ha, hb⟩ := h1
    go_enter Tryd.func64, Tryd.ntmps64
    go_wp2
    go_loopw [] (fun wr => ∃ pos, wr.heap[w.heap.size]? = some (.stringIter s pos) ∧ Below w.heap.size w wr ∧ Hid (nameTail 0 s.data.toList = nameTail pos (s.data.toList.drop pos))) (fun wr => s.size - wr.iterPos w.heap.size)
    case atStart =>
      refine ⟨0, ?_, (Below.refl _ w).alloc (Nat.le_refl _) _, hid (by simp)⟩
      exact World.iter_heap w s 0
    case round =>
      obtain ⟨pos, hit, hbw, HT⟩ := hrel
      have hsz : w.heap.size < wr.heap.size := (Array.getElem?_eq_some_iff.1 hit).1
      by_cases hp : pos < s.size
      · have hnx : ∀ ty, (Instr.next (.pointer (some ⟨w.heap.size, 0, none⟩)) true ty).run Tryd.prog wr = _ := fun ty => Lib.run_next_any_at wr w.heap.size s pos ty hit hp
        have hstep := nameTail_step s pos hp
        have hd1 := decode_le s pos
        have hit2 := Lib.iterAt_heap wr w.heap.size s pos (pos + (Utf8.decode s pos).2) hit
        have hbw2 := Lib.below_iterAt hbw (k := w.heap.size) (Nat.le_refl _) s (pos + (Utf8.decode s pos).2)
        generalize hr : (Utf8.decode s pos).1 = r at *
        generalize hk : (Utf8.decode s pos).2 = k at *
        have goesOn : k = 1 → Hid (nameTail pos (s.data.toList.drop pos) = nameTail (pos + 1) (s.data.toList.drop (pos + 1))) →
            (∃ pos_1, (wr.iterAt w.heap.size s (pos + k)).heap[w.heap.size]? = some (Obj.stringIter s pos_1) ∧ Below w.heap.size w (wr.iterAt w.heap.size s (pos + k)) ∧ Hid (nameTail 0 s.data.toList = nameTail pos_1 (s.data.toList.drop pos_1))) ∧
            s.size - (wr.iterAt w.heap.size s (pos + k)).iterPos w.heap.size < s.size - wr.iterPos w.heap.size := fun hk1 HS => by
          subst hk1
          refine ⟨⟨pos + 1, hit2, hbw2, hid (HT.out.trans HS.out)⟩, ?_⟩
          simp only [World.iterPos, hit2, hit]
          omega
        rcases hstep with ⟨hl, hk1, HS⟩ | ⟨hl, hd, hk1, HS⟩ | ⟨hl, hd, HS⟩
        · subst hk1
          have g := goesOn rfl HS
          clear goesOn
          rcases hl with ⟨ha, hb⟩ | ⟨ha, hb⟩ | ha
          · go_wp2
            all_goals first | exact g | (exfalso; omega) | (exfalso; simp_all; done) | (exfalso; simp_all; omega)
          · have : ¬ (97 ≤ (r : Int)) := by omega
            go_wp2
            all_goals first | exact g | (exfalso; omega) | (exfalso; simp_all; done) | (exfalso; simp_all; omega)
          · subst ha
            go_wp2
            all_goals first | exact g | (exfalso; omega) | (exfalso; simp_all; done) | (exfalso; simp_all; omega)
        · subst hk1
          by_cases h0 : pos = 0
          · have hf : Hid (nameS s.data.toList = false) := hid (by rw [HN.out, HT.out, HS.out, h0]; rfl)
            clear goesOn
            subst h0
            rw [Nat.zero_add] at hbw2
            go_wp2
            all_goals first | (exfalso; omega) | (exfalso; simp_all; done) | (exfalso; simp_all; omega) | (go_ret; rw [hf.out]; exact ⟨rfl, hbw2⟩)
          · have g := goesOn rfl (hid (by rw [HS.out]; simp [h0]))
            clear goesOn
            go_wp2
            all_goals first | exact g | (exfalso; omega) | (exfalso; simp_all; done) | (exfalso; simp_all; omega)
        · have hf : Hid (nameS s.data.toList = false) := hid (by rw [HN.out, HT.out, HS.out])
          clear goesOn
          go_wp2
          all_goals first | (exfalso; omega) | (exfalso; simp_all; done) | (exfalso; simp_all; omega) | (go_ret; rw [hf.out]; exact ⟨rfl, hbw2⟩)
      · have hnx : ∀ ty, (Instr.next (.pointer (some ⟨w.heap.size, 0, none⟩)) true ty).run Tryd.prog wr = _ := fun ty => Lib.run_next_end_at wr w.heap.size s pos ty hit hp
        go_wp2
        go_ret
        rw [HN.out, HT.out, drop_end hp]
        exact ⟨rfl, hbw⟩
  · have hf : nameS s.data.toList = false := by simp [nameS, h1]
    have h1' : s.size < 1 ∨ 64 < s.size := by omega
    rw [hf]
    go_enter Tryd.func64, Tryd.ntmps64
    rcases h1' with h | h
    · have : (s.size : Int) < 1 := by omega
      go_wp2
      go_ret
      exact ⟨rfl, Below.refl _ _⟩
    · go_wp2
      go_ret
      exact ⟨rfl, Below.refl _ _⟩
end Go.Proofs.YtaoeabnpmpimgaaDoor
end
section
namespace Go.Proofs.YtaoeabnpmpimgaaDoor
open Go.RowKit Go.Icz
theorem chain_all : ∀ (l : List Lab) (p : Option B8), chain p l = true → ∀ x ∈ l, x.1.length ≤ 64 ∧ x.2.length ≤ 128
  | [], _, _, x, hx => by simp at hx
  | y :: t, p, h, x, hx => by
    simp only [chain, Bool.and_eq_true] at h
    rcases List.mem_cons.1 hx with rfl | hx
    · have h1 := h.1.1.1
      have h2 := h.1.1.2
      simp only [nameS, valueS, Bool.and_eq_true, decide_eq_true_eq] at h1 h2
      omega
    · exact chain_all t _ h.2 x hx
theorem right_all {l : List Lab} (h : rightS l = true) : l.length ≤ 16 ∧ ∀ x ∈ l, x.1.length ≤ 64 ∧ x.2.length ≤ 128 := by
  simp only [rightS, Bool.and_eq_true, decide_eq_true_eq] at h
  exact ⟨h.1.2, chain_all l none h.2⟩
end Go.Proofs.YtaoeabnpmpimgaaDoor
end
