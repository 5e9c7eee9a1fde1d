/-
  What cache's calls do: New, Used, Hits, Peek, Get, Drop, Put. Conditions: those that each theorem names.
-/
import Derived.Test.YtflhgoecmcfkkaaCput
import Derived.Test.YtflhgoecmcfkkaaCshf
import Derived.Lib.SliceRun
namespace Go.Proofs.Ytflhgoecmcfkkaa
open Go.RowKit Go.Icz Go.Maps
theorem below_alloc' {w w' : World} {o : Obj} {B : Nat} (hB : B ≤ w.heap.size) (h : Below B (w.alloc o) w') : Below B w w' := ((Below.refl B w).alloc hB o).trans h
theorem Clone_any (v : Value) (l : List Nat) (w : World) (hv : Rd w v l) (hlen : l.length ≤ 140737488355328) :
    Calls Try.prog 30 #[v] w fun e w' => ∃ u, e = .returned u ∧ Own w' w.heap.size u l ∧ Below w.heap.size w w' := by
  have HV := hid hv
  obtain ⟨A, c, rfl, _, hr⟩ := hv
  rcases A with _ | a
  · have hl : l = [] := by
      rcases Nat.eq_zero_or_pos l.length with h | h
      · exact List.eq_nil_of_length_eq_zero h
      · obtain ⟨_, _, h, _⟩ := hr h
        cases h
    subst hl
    clear hr HV
    have hn := Lib.run_eql_slice_nil (P := Try.prog)
    go_enter Try.func30, Try.ntmps30
    go_wp2
    go_ret
    exact ⟨_, rfl, Own.nil _ _, Below.refl _ _⟩
  · clear hr
    have hn := Lib.run_eql_slice_nil (P := Try.prog)
    go_enter Try.func30, Try.ntmps30
    go_wp2_with (at_builtin; refine wp_appR std rfl (.tmp 5) (.tmp 6) rfl w.heap.size _ _ [] l rfl (Own.made w (Nat.le_refl _)) rfl (HV.out.alloc _) ?_ ?_ ?_; (focus (simp; omega)); (focus (simp; done)); intro v1 w1 o1 b1)
    go_ret
    exact ⟨_, rfl, o1, below_alloc' (Nat.le_refl _) b1⟩
theorem sClone_is (s : ByteArray) (hs : s.size ≤ 281474976710656) (w : World) : Calls Try.prog 36 #[.string s] w fun e w' => e = .returned (.string s) ∧ Below w.heap.size w w' := by
  have hC : ∀ w2 : World, Calls Try.prog 40 #[.string s] w2 fun e w' => e = .returned (.string s) ∧ Below w2.heap.size w2 w' := fun w2 => Any.stringslite_Clone Try.laysM316 s w2 hs
  clear hs
  go_enter Try.func36, Try.ntmps36
  go_wp2_with (go_at_call 40; refine (hC _).mono ?_; rintro e w1 ⟨rfl, b1⟩)
  go_ret
  exact ⟨rfl, b1⟩
/-- A cache that New made: its block q, and its shelf. -/
structure Ca (w : World) (B q s m li : Nat) (hi mi : Int) (l : List It) : Prop where
  sh : Sh w B s m li hi mi l
  at_ : w.heap[q]? = some (.cells #[.pointer (some ⟨s, 0, none⟩)] 47 (0, 0))
  lo : B ≤ q
theorem Sh.qn {w : World} {B s m li : Nat} {hi mi : Int} {l : List It} (h : Sh w B s m li hi mi l) {q : Nat} {cs : Array Value} {t : TypeId} {z : Nat × Nat} (hq : w.heap[q]? = some (.cells cs t z)) (h1 : t ≠ 57) (h2 : t ≠ 71) : ¬ Foot s m l q := by
  rintro (rfl | rfl | hj)
  · have := h.at_
    unfold ShAt at this
    rw [hq] at this
    injection this with this
    injection this with _ h3 _
    exact h1 h3
  · obtain ⟨D, ⟨es, clock, h3, _⟩, _⟩ := h.mp
    rw [h3] at hq
    cases hq
  · obtain ⟨e, he, rfl⟩ := List.mem_map.1 hj
    obtain ⟨a, b, hn⟩ := h.ch.node he
    unfold Nd at hn
    rw [hq] at hn
    injection hn with hn
    injection hn with _ h3 _
    exact h2 h3
/-- A call of its own turned it. -/
theorem Ca.next {w w' : World} {B q s m li : Nat} {hi mi hi' mi' : Int} {l l' : List It} (h : Ca w B q s m li hi mi l) (h' : Sh w' B s m li hi' mi' l') (k : Tch (Foot s m l) w w') : Ca w' B q s m li hi' mi' l' :=
  ⟨h', k.row h.at_ (h.sh.qn h.at_ (by decide) (by decide)), h.lo⟩
theorem Ca.touch {S : Nat → Prop} {w w' : World} {B q s m li : Nat} {hi mi : Int} {l : List It} (h : Ca w B q s m li hi mi l) (k : Tch S w w') (hS : ∀ j, S j → ¬ (j = q ∨ Foot s m l j)) (hB : NB S w) : Ca w' B q s m li hi mi l :=
  ⟨h.sh.touch k (fun j hj hf => hS j hj (.inr hf)) hB, k.row h.at_ fun hs => hS q hs (.inl rfl), h.lo⟩
theorem Ca.below {w w' : World} {B q s m li : Nat} {hi mi : Int} {l : List It} (h : Ca w B q s m li hi mi l) (k : Below w.heap.size w w') : Ca w' B q s m li hi mi l :=
  h.touch (S := fun _ => False) (Tch.of_below k) (fun _ h => h.elim) (fun _ h => h.elim)
/-- No cache, or one that nobody made. -/
def CaZ (w : World) (v : Value) : Prop := v = .pointer none ∨ ∃ q : Nat, v = .pointer (some ⟨q, 0, none⟩) ∧ w.heap[q]? = some (.cells #[.pointer none] 47 (0, 0))
theorem CaZ.below {w w' : World} {v : Value} (h : CaZ w v) (k : Below w.heap.size w w') : CaZ w' v := by
  rcases h with rfl | ⟨q, rfl, h⟩
  · exact .inl rfl
  · exact .inr ⟨q, rfl, (k.block q (row_lt h)).trans h⟩
set_option maxRecDepth 100000 in
theorem made_yes {w : World} {q s : Nat} (h : w.heap[q]? = some (.cells #[.pointer (some ⟨s, 0, none⟩)] 47 (0, 0))) : Calls Try.prog 31 #[.pointer (some ⟨q, 0, none⟩)] w fun e w' => e = .returned (.bool true) ∧ w' = w := by
  have c0 := held_cell (i := 0) h rfl
  clear h
  go_enter Try.func31, Try.ntmps31
  go_wp2
  go_ret
  exact ⟨rfl, rfl⟩
set_option maxRecDepth 100000 in
theorem made_no {w : World} {v : Value} (h : CaZ w v) : Calls Try.prog 31 #[v] w fun e w' => e = .returned (.bool false) ∧ w' = w := by
  rcases h with rfl | ⟨q, rfl, h⟩
  · go_enter Try.func31, Try.ntmps31
    go_wp2
    go_ret
    exact ⟨rfl, rfl⟩
  · have c0 := held_cell (i := 0) h rfl
    clear h
    go_enter Try.func31, Try.ntmps31
    go_wp2
    go_ret
    exact ⟨rfl, rfl⟩
set_option maxRecDepth 100000 in
theorem looked_yes {w : World} {q s : Nat} (h : w.heap[q]? = some (.cells #[.pointer (some ⟨s, 0, none⟩)] 47 (0, 0))) : Calls Try.prog 28 #[.pointer (some ⟨q, 0, none⟩)] w fun e w' => e = .returned (.pointer (some ⟨s, 0, none⟩)) ∧ w' = w := by
  have c0 := held_cell (i := 0) h rfl
  have hM := made_yes h
  clear h
  go_enter Try.func28, Try.ntmps28
  go_wp2_with (go_at_call 31; refine hM.mono ?_; rintro e w1 ⟨rfl, rfl⟩)
  go_ret
  exact ⟨rfl, rfl⟩
set_option maxRecDepth 100000 in
theorem looked_no {w : World} {v : Value} (h : CaZ w v) : Calls Try.prog 28 #[v] w fun e w' => e = .returned (.pointer (some ⟨w.heap.size, 0, none⟩)) ∧ w' = w.alloc (.cells (shR 0 0 0 0 nl nl (.map none)) 57) := by
  have hM := made_no h
  clear h
  unfold shR nl
  go_enter Try.func28, Try.ntmps28
  go_wp2_with (go_at_call 31; refine hM.mono ?_; rintro e w1 ⟨rfl, rfl⟩)
  go_ret
  exact ⟨rfl, rfl⟩
theorem agr_nil : Agr (.map []) [] := ⟨fun _ => rfl, fun _ h => absurd h (by simp), rfl⟩
set_option maxRecDepth 100000 in
theorem New_no (li : Int) (w : World) (h : li < 1 ∨ 1048576 < li) : Calls Try.prog 7 #[.int .i64 li] w fun e w' => e = .returned (.tuple #[.pointer none, .int .i64 1]) ∧ w' = w := by
  by_cases h1 : li < 1
  · have hd : decide (li < 1) = true := decide_eq_true h1
    clear h
    go_enter Try.func7, Try.ntmps7
    go_wp2
    go_ret2
    exact ⟨rfl, rfl⟩
  · have h2 : 1048576 < li := by omega
    have hd : decide (li < 1) = false := decide_eq_false h1
    have hd2 : decide (1048576 < li) = true := decide_eq_true h2
    clear h
    go_enter Try.func7, Try.ntmps7
    go_wp2
    go_ret2
    exact ⟨rfl, rfl⟩
set_option maxRecDepth 100000 in
theorem New_yes (li : Nat) (w : World) (h1 : 1 ≤ li) (h2 : li ≤ 1048576) : Calls Try.prog 7 #[.int .i64 li] w fun e w' => e = .returned (.tuple #[.pointer (some ⟨w.heap.size + 1 + 1, 0, none⟩), .int .i64 0]) ∧ Ca w' w.heap.size (w.heap.size + 1 + 1) (w.heap.size + 1) w.heap.size li 0 0 [] ∧ Below w.heap.size w w' := by
  have hd : decide ((li : Int) < 1) = false := decide_eq_false (by omega)
  have hd2 : decide (1048576 < (li : Int)) = false := decide_eq_false (by omega)
  have hMM := @run_makeMap Try.prog
  have fin : Ca (((w.alloc (.map #[] 0)).alloc (.cells (shR li 0 0 0 nl nl (.map (some w.heap.size))) 57)).alloc (.cells #[.pointer (some ⟨w.heap.size + 1, 0, none⟩)] 47)) w.heap.size (w.heap.size + 1 + 1) (w.heap.size + 1) w.heap.size li 0 0 [] := by
    have e1 : (w.alloc (.map #[] 0)).heap.size = w.heap.size + 1 := by simp
    have e2 : ((w.alloc (.map #[] 0)).alloc (.cells (shR li 0 0 0 nl nl (.map (some w.heap.size))) 57)).heap.size = w.heap.size + 1 + 1 := by simp
    have hs := heap_alloc_new (w.alloc (.map #[] 0)) (.cells (shR li 0 0 0 nl nl (.map (some w.heap.size))) 57)
    have hq := heap_alloc_new ((w.alloc (.map #[] 0)).alloc (.cells (shR li 0 0 0 nl nl (.map (some w.heap.size))) 57)) (.cells #[.pointer (some ⟨w.heap.size + 1, 0, none⟩)] 47)
    rw [e1] at hs
    rw [e2] at hq
    have ho : (w.alloc (.map #[] 0)).ownsMap (H := Unit) Try.prog 9 rPt w.heap.size 0 (.map []) := World.ownsMap_made ..
    refine ⟨⟨row_alloc hs _, trivial, by simp [gs], by simp [gs], by simp, ⟨.map [], (ho.alloc _).alloc _, agr_nil⟩, by simp, ⟨by omega, by omega, by simp⟩, by simp [tot], h2⟩, hq, by omega⟩
  have hb : Below w.heap.size w (((w.alloc (.map #[] 0)).alloc (.cells (shR li 0 0 0 nl nl (.map (some w.heap.size))) 57)).alloc (.cells #[.pointer (some ⟨w.heap.size + 1, 0, none⟩)] 47)) :=
    (((Below.refl _ w).alloc (Nat.le_refl _) _).alloc (by simp) _).alloc (by simp; omega) _
  unfold shR nl at fin hb
  go_enter Try.func7, Try.ntmps7
  go_wp2
  go_ret2
  exact ⟨rfl, fin, hb⟩
set_option maxRecDepth 100000 in
theorem Used_is {w : World} {B q s m li : Nat} {hi mi : Int} {l : List It} (h : Ca w B q s m li hi mi l) : Calls Try.prog 17 #[.pointer (some ⟨q, 0, none⟩)] w fun e w' => e = .returned (.int .i64 (tot l : Nat)) ∧ w' = w := by
  have hL := looked_yes h.at_
  have c1 : w.cell? ⟨s, 1, none⟩ = some (.int .i64 (tot l : Nat)) := held_cell h.sh.at_ rfl
  clear h
  generalize tot l = tl at *
  go_enter Try.func17, Try.ntmps17
  go_wp2_with (go_at_call 28; refine hL.mono ?_; rintro e w1 ⟨rfl, rfl⟩)
  go_ret
  exact ⟨rfl, rfl⟩
set_option maxRecDepth 100000 in
theorem Used_no {w : World} {v : Value} (h : CaZ w v) : Calls Try.prog 17 #[v] w fun e w' => e = .returned (.int .i64 0) ∧ Below w.heap.size w w' := by
  have hL := looked_no h
  have hr := heap_alloc_new w (.cells (shR 0 0 0 0 nl nl (.map none)) 57)
  have c1 := held_cell (i := 1) hr rfl
  have hb : Below w.heap.size w (w.alloc (.cells (shR 0 0 0 0 nl nl (.map none)) 57)) := (Below.refl _ w).alloc (Nat.le_refl _) _
  clear h hr
  generalize hW : w.alloc (.cells (shR 0 0 0 0 nl nl (.map none)) 57) = W1 at *
  go_enter Try.func17, Try.ntmps17
  go_wp2_with (go_at_call 28; refine hL.mono ?_; rintro e w1 ⟨rfl, rfl⟩)
  go_ret
  exact ⟨rfl, hb⟩
set_option maxRecDepth 100000 in
theorem Hits_is {w : World} {B q s m li : Nat} {hi mi : Int} {l : List It} (h : Ca w B q s m li hi mi l) : Calls Try.prog 14 #[.pointer (some ⟨q, 0, none⟩)] w fun e w' => e = .returned (.tuple #[.int .i64 hi, .int .i64 mi]) ∧ Below w.heap.size w w' := by
  have hL := looked_yes h.at_
  have c1 : w.cell? ⟨s, 2, none⟩ = some (.int .i64 hi) := held_cell h.sh.at_ rfl
  have c2 : w.cell? ⟨s, 3, none⟩ = some (.int .i64 mi) := held_cell h.sh.at_ rfl
  clear h
  go_enter Try.func14, Try.ntmps14
  go_wp2_with (go_at_call 28; refine hL.mono ?_; rintro e w1 ⟨rfl, rfl⟩)
  go_quiet (fail)
  go_wp2
  go_ret2
  exact ⟨rfl, rfl, rfl, rfl, Nat.le_refl _, fun _ _ => rfl⟩
set_option maxRecDepth 100000 in
theorem Hits_no {w : World} {v : Value} (h : CaZ w v) : Calls Try.prog 14 #[v] w fun e w' => e = .returned (.tuple #[.int .i64 0, .int .i64 0]) ∧ Below w.heap.size w w' := by
  have hL := looked_no h
  have hr := heap_alloc_new w (.cells (shR 0 0 0 0 nl nl (.map none)) 57)
  have c1 := held_cell (i := 2) hr rfl
  have c2 := held_cell (i := 3) hr rfl
  have hb : Below w.heap.size w (w.alloc (.cells (shR 0 0 0 0 nl nl (.map none)) 57)) := (Below.refl _ w).alloc (Nat.le_refl _) _
  clear h hr
  generalize hW : w.alloc (.cells (shR 0 0 0 0 nl nl (.map none)) 57) = W1 at *
  go_enter Try.func14, Try.ntmps14
  go_wp2_with (go_at_call 28; refine hL.mono ?_; rintro e w1 ⟨rfl, rfl⟩)
  go_quiet (fail)
  go_wp2
  go_ret2
  exact ⟨rfl, hb.trans ⟨rfl, rfl, rfl, Nat.le_refl _, fun _ _ => rfl⟩⟩
end Go.Proofs.Ytflhgoecmcfkkaa
