/-
  The law's knows: a list that lags. Bytes as a text. Conditions: those that each theorem names.
-/
import Derived.Test.YtcohpgahffbnlaaOme
import Derived.Lib.SlBytesConst
import Derived.Laws.BytesString
import Derived.Laws.BytesArg
import Derived.Laws.IdiomStrings
namespace Go.Icz
open Go.RowKit Go.Maps Go.ChangeMaps Go.MapKept
/-- Bytes as a text. -/
def strB (l : List Nat) : ByteArray := ⟨(l.map fun n : Nat => UInt8.ofNat n).toArray⟩
def kA : ByteArray := ⟨#[97]⟩
def s1 : SM := ⟨[], [], 5, 0, 5, 0, 0, false⟩
def s2 : SM := ⟨[(kA, [120])], [⟨5, kA, true⟩], 5, 0, 5, 1, 0, false⟩
def s3 : SM := ⟨[(kA, [120])], [⟨5, kA, true⟩], 5, 3, 5, 1, 0, false⟩
def s4 : SM := ⟨[(kA, [120])], [⟨5, kA, true⟩], 5, 3, 5, 2, 0, false⟩
def s5 : SM := ⟨[(kA, [120])], [⟨5, kA, true⟩], 8, 3, 5, 2, 0, false⟩
def s6 : SM := ⟨[(kA, [120])], [⟨5, kA, true⟩], 8, 3, 5, 3, 0, false⟩
def s7 : SM := ⟨[(kA, [120])], [⟨5, kA, true⟩], 8, 3, 5, 4, 0, false⟩
theorem lookA : alook [(kA, [120])] kA = some [120] := by simp [alook]
theorem lookN : alook ([] : OM) kA = none := rfl
theorem nameA : nameB kA = true := by decide
theorem k1 : tickM (newS 5) 5 = (0, s1) := by simp [tickM, tickB, newS, s1]
theorem k2 : putM s1 kA [120] = (0, s2) := by
  have hf : fullS s1 kA = false := rfl
  have e1 : errS s1 = 0 := rfl
  have e2 : okS s1 = true := rfl
  unfold putM
  rw [nameA, hf, e1, e2]
  simp only [Bool.true_eq_false, if_false, if_true, List.length_singleton, Bool.false_eq_true, show ¬ (1048576 < 1) by omega]
  have hn : noteS (askS s1) kA true = { askS s1 with ch := [⟨5, kA, true⟩] } := by
    unfold noteS
    rw [show (askS s1).L = [] from rfl, lookN]
    rfl
  unfold actPut
  rw [hn]
  rfl
theorem k3 : lagM s2 3 = (0, s3) := rfl
theorem k4 : listM s3 ⟨#[]⟩ = ([], 0, s4) := by
  have hl : listed s3 ⟨#[]⟩ = [] := by
    have h1 : lateS s3 = [⟨5, kA, true⟩] := rfl
    unfold listed
    rw [h1]
    simp [backs, back1, adel, unitOf, s3, preS]
  have e1 : errS s3 = 0 := rfl
  unfold listM
  rw [show begB ⟨#[]⟩ = true by decide, hl, e1]
  simp [rises, s4, askS, s3, nextF]
theorem k5 : tickM s4 3 = (0, s5) := by simp [tickM, tickB, s4, s5]
theorem k6 : (listM s5 kA).1.length = 1 ∧ (listM s5 kA).2 = (0, s6) := by
  have hl : listed s5 kA = [(kA, ())] := by
    have h1 : lateS s5 = [] := rfl
    have h2 : hasPre kA kA = true := by decide
    unfold listed
    rw [h1]
    simp [backs, unitOf, s5, preS, h2]
  have e1 : errS s5 = 0 := rfl
  unfold listM
  rw [show begB kA = true by decide, hl, e1]
  simp [rises, s6, askS, s5, nextF]
theorem k7 : getM s6 kA = ([120], 0, s7) := by
  have e1 : errS s6 = 0 := rfl
  unfold getM
  rw [nameA, e1, show s6.L = [(kA, [120])] from rfl, lookA]
  rfl
theorem KB_cells (l : List Nat) : KB.cells l = l.map fun x : Nat => Value.int .u8 (x : Int) := by
  unfold Kd.cells
  induction l with
  | nil => rfl
  | cons a r ih => rw [List.flatMap_cons, ih]; rfl
theorem rd_one (w : World) (a : Nat) (z : Nat × Nat) : KB.Rd (w.alloc (.cells #[.int .u8 (a : Int)] 5 z)) (.slice (some ⟨w.heap.size, 0, none⟩) 1 1) [a] := by
  have h := heap_alloc_new w (.cells #[.int .u8 (a : Int)] 5 z)
  refine ⟨_, 1, rfl, by simp, fun _ => ⟨w.heap.size, 0, rfl, by simp, fun j u hj => ?_⟩⟩
  rw [cell_of_row _ _ _ _ _ _ h]
  rw [KB_cells] at hj
  match j, hj with
  | 0, hj => exact hj
  | j + 1, hj => cases hj
end Go.Icz
namespace Go.Proofs.Ytcohpgahffbnlaa
open Go.RowKit Go.Icz Go.Maps Go.ChangeMaps Go.MapKept
set_option maxRecDepth 100000
set_option maxHeartbeats 4000000
variable {T : Nat → Prop}
theorem num_is (a : Int) (w : World) : Calls Try.prog 6 #[.int .i64 a] w fun e w' => e = .returned (.int .i64 a) ∧ w' = w := by
  go_enter Try.func6, Try.ntmps6
  go_wp2
  go_ret
  exact ⟨rfl, rfl⟩
theorem conv_kb {w : World} {v : Value} {l : List Nat} (h : KB.Rd w v l) : (convert 32 9 v).run Try.prog w = .ok (.string (strB l)) w := by
  obtain ⟨A, c, rfl, hc, hr⟩ := h
  rcases Nat.eq_zero_or_pos l.length with h0 | h0
  · have hl : l = [] := List.eq_nil_of_length_eq_zero h0
    subst hl
    rcases A with _ | ad
    · exact run_convert_bytes_nil w 32 5 Try.underlying32 Try.underlying5 _ _ 9 Try.underlying9
    · rw [run_convert_bytes_string w 32 9 5 _ _ _ Try.underlying32 Try.underlying5 Try.underlying9]
      exact run_bytesToString w ad 0 c [] (by simp [loadCells, loadCellsFrom])
  · obtain ⟨b, off, rfl, _, hcell⟩ := hr h0
    rw [run_convert_bytes_string w 32 9 5 _ _ _ Try.underlying32 Try.underlying5 Try.underlying9]
    have hl := run_loadCells_list (P := Try.prog) w ⟨b, off, none⟩ ((l.map fun n : Nat => (n : Int)).map (Value.int .u8)) (fun j u hj => by
      rw [add_flat]
      refine hcell j u ?_
      rw [KB_cells, ← hj]
      simp [List.map_map, Function.comp_def])
    simp only [List.length_map] at hl
    rw [run_bytesToString w _ l.length c _ hl, foldl_push_bytes]
    simp [strB, ByteArray.empty, ByteArray.emptyWithCapacity, Function.comp_def]
    rfl
theorem knows_is (w : World) : Calls Try.prog 7 #[] w fun e w' => e = .returned (.bool true) ∧ Below w.heap.size w w' := by
  have hb : ∀ w1 w2, Below w.heap.size w w1 → Tch (fun k => w.heap.size ≤ k) w1 w2 → Below w.heap.size w w2 := fun w1 w2 b t => b.trans (t.to_below (fun _ h => h) b.size)
  have hN : Calls Try.prog 4 #[.int .i64 5] w fun e w' => ∃ q p, e = .returned (.tuple #[.pointer (some ⟨q, 0, none⟩), .int .i64 0]) ∧ Sto w' (fun k => w.heap.size ≤ k) 0 q p (newS 5) ∧ Below w.heap.size w w' := New_is 5 w (by decide) (fun _ h => h)
  have P1 : ∀ w1 q p, Sto w1 (fun k => w.heap.size ≤ k) 0 q p (newS 5) → Below w.heap.size w w1 → Calls Try.prog 9 #[.pointer (some ⟨q, 0, none⟩), .int .i64 5] w1 fun e w' => e = .returned (.int .i64 0) ∧ Sto w' (fun k => w.heap.size ≤ k) 0 q p s1 ∧ Below w.heap.size w w' := fun w1 q p h b => by
    refine (Tick_is h (fun k hk => Nat.le_trans b.size hk) 5).mono ?_
    rw [k1]
    rintro e w2 ⟨rfl, D, t⟩
    exact ⟨rfl, D, hb _ _ b t⟩
  have P2 : ∀ w1 q p z, Sto w1 (fun k => w.heap.size ≤ k) 0 q p s1 → Below w.heap.size w w1 → Calls Try.prog 10 #[.pointer (some ⟨q, 0, none⟩), .string ⟨#[97]⟩, .slice (some ⟨w1.heap.size, 0, none⟩) 1 1] (w1.alloc (.cells #[.int .u8 120] 5 z)) fun e w' => e = .returned (.int .i64 0) ∧ Sto w' (fun k => w.heap.size ≤ k) 2 q p s2 ∧ Below w.heap.size w w' := fun w1 q p z h b => by
    have hl : Sto (w1.alloc (.cells #[.int .u8 120] 5 z)) (fun k => w.heap.size ≤ k ∧ k ≠ w1.heap.size) 0 q p s1 := (h.re (T' := fun k => w.heap.size ≤ k ∧ k ≠ w1.heap.size) (fun k hk hlt => ⟨hk, Nat.ne_of_lt hlt⟩)).below ((Below.refl _ w1).alloc (Nat.le_refl _) _)
    have hs := b.size
    refine (Put_is hl (by decide) (fun k hk => ?_) kA (by decide) (l := [120]) (rd_one w1 120 z) (fun _ g hg hT => by injection hg with hg; exact hT.2 hg.symm) (by decide)).mono ?_
    · rw [World.size_alloc] at hk
      exact ⟨by omega, by omega⟩
    · rw [k2]
      rintro e w2 ⟨rfl, D, t⟩
      exact ⟨rfl, D.re (fun k hk _ => hk.1), hb _ _ (b.alloc b.size _) (t.mono (fun k hk => hk.1))⟩
  have P3 : ∀ w1 q p, Sto w1 (fun k => w.heap.size ≤ k) 2 q p s2 → Below w.heap.size w w1 → Calls Try.prog 11 #[.pointer (some ⟨q, 0, none⟩), .int .i64 3] w1 fun e w' => e = .returned (.int .i64 0) ∧ Sto w' (fun k => w.heap.size ≤ k) 2 q p s3 ∧ Below w.heap.size w w' := fun w1 q p h b => by
    refine (Lag_is h 3).mono ?_
    rw [k3]
    rintro e w2 ⟨rfl, D, t⟩
    exact ⟨rfl, D, hb _ _ b t⟩
  have P4 : ∀ w1 q p, Sto w1 (fun k => w.heap.size ≤ k) 2 q p s3 → Below w.heap.size w w1 → Calls Try.prog 12 #[.pointer (some ⟨q, 0, none⟩), .string ⟨#[]⟩] w1 fun e w' => ∃ A C, e = .returned (.tuple #[.slice A 0 C, .int .i64 0]) ∧ Sto w' (fun k => w.heap.size ≤ k) 3 q p s4 ∧ Below w.heap.size w w' := fun w1 q p h b => by
    refine (List_is h (by decide) (fun k hk => Nat.le_trans b.size hk) ⟨#[]⟩ (by decide)).mono ?_
    rw [k4]
    rintro e w2 ⟨A, n, C, rfl, o, D, t⟩
    obtain ⟨A2, C2, hv, _⟩ := o.rd.form
    injection hv with _ hn _
    simp only [List.map_nil, List.length_nil] at hn
    subst hn
    exact ⟨A, C, rfl, D, hb _ _ b t⟩
  have P5 : ∀ w1 q p, Sto w1 (fun k => w.heap.size ≤ k) 3 q p s4 → Below w.heap.size w w1 → Calls Try.prog 9 #[.pointer (some ⟨q, 0, none⟩), .int .i64 3] w1 fun e w' => e = .returned (.int .i64 0) ∧ Sto w' (fun k => w.heap.size ≤ k) 3 q p s5 ∧ Below w.heap.size w w' := fun w1 q p h b => by
    refine (Tick_is h (fun k hk => Nat.le_trans b.size hk) 3).mono ?_
    rw [k5]
    rintro e w2 ⟨rfl, D, t⟩
    exact ⟨rfl, D, hb _ _ b t⟩
  have P6 : ∀ w1 q p, Sto w1 (fun k => w.heap.size ≤ k) 3 q p s5 → Below w.heap.size w w1 → Calls Try.prog 12 #[.pointer (some ⟨q, 0, none⟩), .string ⟨#[97]⟩] w1 fun e w' => ∃ A C, e = .returned (.tuple #[.slice A 1 C, .int .i64 0]) ∧ Sto w' (fun k => w.heap.size ≤ k) 4 q p s6 ∧ Below w.heap.size w w' := fun w1 q p h b => by
    refine (List_is h (by decide) (fun k hk => Nat.le_trans b.size hk) kA (by decide)).mono ?_
    rw [k6.2]
    rintro e w2 ⟨A, n, C, rfl, o, D, t⟩
    obtain ⟨A2, C2, hv, _⟩ := o.rd.form
    injection hv with _ hn _
    rw [List.length_map, k6.1] at hn
    subst hn
    exact ⟨A, C, rfl, D, hb _ _ b t⟩
  have P7 : ∀ w1 q p, Sto w1 (fun k => w.heap.size ≤ k) 4 q p s6 → Below w.heap.size w w1 → Calls Try.prog 13 #[.pointer (some ⟨q, 0, none⟩), .string ⟨#[97]⟩] w1 fun e w' => ∃ A n C, e = .returned (.tuple #[.slice A n C, .int .i64 0]) ∧ (convert 32 9 (.slice A n C)).run Try.prog w' = .ok (.string ⟨#[120]⟩) w' ∧ Sto w' (fun k => w.heap.size ≤ k) 5 q p s7 ∧ Below w.heap.size w w' := fun w1 q p h b => by
    refine (Get_is h (by decide) (fun k hk => Nat.le_trans b.size hk) kA (by decide)).mono ?_
    rw [k7]
    rintro e w2 ⟨A, n, C, rfl, o, D, t⟩
    exact ⟨A, n, C, rfl, conv_kb o.rd, D, hb _ _ b t⟩
  have P8 : ∀ w1 q p, Sto w1 (fun k => w.heap.size ≤ k) 5 q p s7 → Calls Try.prog 14 #[.pointer (some ⟨q, 0, none⟩)] w1 fun e w' => e = .returned (.int .i64 8) ∧ w' = w1 := fun w1 q p h => Now_is h
  have P9 : ∀ w1 q p, Sto w1 (fun k => w.heap.size ≤ k) 5 q p s7 → Calls Try.prog 15 #[.pointer (some ⟨q, 0, none⟩)] w1 fun e w' => e = .returned (.int .i64 4) ∧ w' = w1 := fun w1 q p h => Calls_is h
  have kc := fun (w : World) (C : Array Value) (n c : Nat) => Lib.run_convert_bytes_const (P := Try.prog) w 32 5 C n c Try.underlying32 Try.underlying5
  have t1 := True.intro
  have t4 := True.intro
  clear hb
  go_enter Try.func7, Try.ntmps7
  go_wp2_with (first
    | (go_at_call 4; refine hN.mono ?_; rintro e w1 ⟨q, p, rfl, h1, b1⟩; clear hN)
    | (clear t1; go_at_call 9; refine (P1 w1 q p h1 b1).mono ?_; rintro e w2 ⟨rfl, h2, b2⟩; clear P1)
    | (go_at_call 10; refine (P2 w2 q p _ h2 b2).mono ?_; rintro e w3 ⟨rfl, h3, b3⟩; clear P2)
    | (go_at_call 11; refine (P3 w3 q p h3 b3).mono ?_; rintro e w4 ⟨rfl, h4, b4⟩; clear P3)
    | (clear t4; go_at_call 12; refine (P4 w4 q p h4 b4).mono ?_; rintro e w5 ⟨A5, C5, rfl, h5, b5⟩; clear P4)
    | (go_at_call 9; refine (P5 w5 q p h5 b5).mono ?_; rintro e w6 ⟨rfl, h6, b6⟩; clear P5)
    | (go_at_call 12; refine (P6 w6 q p h6 b6).mono ?_; rintro e w7 ⟨A7, C7, rfl, h7, b7⟩; clear P6)
    | (go_at_call 13; refine (P7 w7 q p h7 b7).mono ?_; rintro e w8 ⟨A8, n8, C8, rfl, cv8, h8, b8⟩; clear P7)
    | (go_at_call 6; refine (num_is _ _).mono ?_; rintro e w0 ⟨rfl, hw0⟩; have hw0 := hw0.symm; subst hw0)
    | (go_at_call 14; refine (P8 w8 q p h8).mono ?_; rintro e w0 ⟨rfl, hw0⟩; have hw0 := hw0.symm; subst hw0; clear P8)
    | (go_at_call 15; refine (P9 w8 q p h8).mono ?_; rintro e w0 ⟨rfl, hw0⟩; have hw0 := hw0.symm; subst hw0; clear P9))
  go_ret
  exact ⟨rfl, b8⟩
end Go.Proofs.Ytcohpgahffbnlaa
