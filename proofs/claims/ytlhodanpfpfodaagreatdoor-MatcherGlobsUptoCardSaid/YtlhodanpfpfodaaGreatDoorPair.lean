/-
  What label.pair answers. Condition: the text has at most 2^47 - 128 bytes; the tables of package utf8 are in place; what an escape stands for is known where there is one.
-/
import Derived.Test.YtlhodanpfpfodaaGreatDoorCut
namespace Go.Proofs.YtlhodanpfpfodaaGreatDoor
open Go.RowKit Go.Icz

/-- Escapes within these bytes are understood. -/
def MeantL (l : B8) : Prop := ∀ (t : ByteArray) (w : World), (92 : UInt8) ∈ l → t.size ≤ l.length → Tabs w → Calls Tryz.prog 108 #[.string t] w fun e w' => e = .returned (.int .i32 (meantS t.data.toList)) ∧ Below w.heap.size w w'
theorem MeantL.sub {l m : B8} (h : MeantL l) (hm : (92 : UInt8) ∈ m → (92 : UInt8) ∈ l) (hl : m.length ≤ l.length) : MeantL m := fun t w h1 h2 h3 => h t w (hm h1) (by omega) h3
theorem MeantL.of_no {l : B8} (h : (92 : UInt8) ∉ l) : MeantL l := fun _ _ h1 => absurd h1 h
theorem MeantL.at {l : B8} (h : MeantL l) : Meant ⟨l.toArray⟩ := fun t w h1 h2 h3 => h t w (by have e : (⟨l.toArray⟩ : ByteArray).data.toList = l := rfl; rwa [e] at h1) (by rw [Lib.size_mk] at h2; exact h2) h3

def trimR (l : B8) : B8 := Lib.trimRightB l 32
theorem trimL_sub (l : B8) : (trimL l).length ≤ l.length ∧ ∀ c ∈ trimL l, c ∈ l := by
  unfold trimL Lib.trimLeftB
  exact ⟨(List.dropWhile_sublist _).length_le, fun c hc => (List.dropWhile_sublist _).subset hc⟩
theorem after_sub (l : B8) (c : UInt8) : (after l c).length ≤ l.length ∧ ∀ b ∈ after l c, b ∈ l := by
  unfold after
  have h1 := List.drop_sublist 1 (l.dropWhile (· != c))
  have h2 := List.dropWhile_sublist (l := l) (· != c)
  exact ⟨(h1.trans h2).length_le, fun b hb => (h1.trans h2).subset hb⟩
theorem before_sub (l : B8) (c : UInt8) : (before l c).length ≤ l.length := by
  unfold before
  exact (List.takeWhile_sublist _).length_le
theorem TrimR (l : B8) (hl : l.length ≤ 9223372036854775807) (w : World) : Calls Tryz.prog 76 #[.string ⟨l.toArray⟩, .string ⟨#[32]⟩] w fun e w' => e = .returned (.string ⟨(trimR l).toArray⟩) ∧ w' = w :=
  Tryz.strings_TrimRight_one ⟨l.toArray⟩ 32 (by decide) w (by simpa [ByteArray.size] using hl)
/-- The label at the beginning, and what stands behind it. -/
def pairS (l : B8) : Option (Lab × B8) :=
  match unquoteS (trimL (after l 61)) with
  | some (t, n) => some ((trimR (before l 61), t), (trimL (after l 61)).drop n)
  | none => none
/-- What pair answers. -/
def Paired (o : Option (Lab × B8)) (w : World) (e : Ending) (w' : World) : Prop :=
  (match o with
    | some (x, r) => e = .returned (.tuple #[.agg #[.string ⟨x.1.toArray⟩, .string ⟨x.2.toArray⟩], .string ⟨r.toArray⟩, .bool true])
    | none => e = .returned (.tuple #[.agg #[.string ⟨#[]⟩, .string ⟨#[]⟩], .string ⟨#[]⟩, .bool false])) ∧ Below w.heap.size w w'
theorem unqF_n : ∀ (f : Nat) (l acc : B8) (n : Nat) (t : B8) (m : Nat), unqF f l acc n = some (t, m) → m ≤ n + l.length
  | 0, l, acc, n, t, m, h => by cases h
  | f + 1, l, acc, n, t, m, h => by
    unfold unqF at h
    split at h
    · cases h
    · rename_i hne
      split at h
      · simp at h
        have := List.length_pos_iff.2 hne
        omega
      · split at h
        · rename_i hx
          have := unqF_n f _ _ _ t m h
          obtain ⟨v, hv⟩ := (hasPrefix_iff _ _).1 hx
          have e := congrArg List.length hv
          rw [List.length_append] at e
          rw [List.length_drop] at this
          omega
        · cases h
theorem unquoteS_n {l t : B8} {m : Nat} (h : unquoteS l = some (t, m)) : m ≤ l.length := by
  unfold unquoteS at h
  split at h
  · rename_i hx
    have := unqF_n _ _ _ _ _ _ h
    obtain ⟨v, hv⟩ := (hasPrefix_iff _ _).1 hx
    have e := congrArg List.length hv
    simp at e
    rw [List.length_drop] at this
    omega
  · cases h

theorem res61 : Tryz.f34.results = #[.cell 2 53, .tmp 3, .tmp 4] := by kernel_rfl
theorem held_cell {w : World} {b i : Nat} {cs : Array Value} {t : TypeId} {v : Value} (h : w.heap[b]? = some (.cells cs t (0, 0))) (hv : cs[i]? = some v) : w.cell? ⟨b, i, none⟩ = some v := by
  rw [cell_of_row _ _ _ _ _ _ h]
  exact hv
theorem held_frozen {w : World} {b i : Nat} {cs : Array Value} {t : TypeId} (h : w.heap[b]? = some (.cells cs t (0, 0))) : w.frozen? ⟨b, i, none⟩ = false := by simp [World.frozen?, h]
theorem set_cells {w : World} {b : Nat} {u v : Value} {t : TypeId} (h : w.heap[b]? = some (.cells #[u, v] t (0, 0))) (x y : Value) :
    (w.setCell ⟨b, 0, none⟩ x).cell? ⟨b, 0, none⟩ = some x ∧ ((w.setCell ⟨b, 0, none⟩ x).setCell ⟨b, 1, none⟩ y).cell? ⟨b, 1, none⟩ = some y := by
  constructor
  · simp [World.setCell, World.cell?, Array.getElem?_modify, h]
  · simp [World.setCell, World.cell?, Array.getElem?_modify, h]
set_option maxHeartbeats 1000000 in
set_option maxRecDepth 100000 in
theorem pair_is (s : ByteArray) (w : World) (hs : s.size ≤ 140737488355200) (hT : Tabs w) (hM : MeantL s.data.toList) :
    Calls Tryz.prog 34 #[.string s] w (Paired (pairS s.data.toList) w) := by
  have hsl := size_len s
  have hc := fun w => Cut_is s 61 w (by omega)
  have ha := after_sub s.data.toList 61
  have hb := before_sub s.data.toList 61
  have ht := trimL_sub (after s.data.toList 61)
  have h1 := TrimL_l (after s.data.toList 61)
  have hMv : MeantL (trimL (after s.data.toList 61)) := hM.sub (fun h => ha.2 _ (ht.2 _ h)) (by omega)
  have hU := fun w hT => Unquote_is ⟨(trimL (after s.data.toList 61)).toArray⟩ w (by rw [Lib.size_mk]; omega) hT hMv.at
  have hR := TrimR (before s.data.toList 61) (by omega)
  have hP : Hid (pairS s.data.toList = match unquoteS (trimL (after s.data.toList 61)) with | some (t, n) => some ((trimR (before s.data.toList 61), t), (trimL (after s.data.toList 61)).drop n) | none => none) := hid rfl
  have hn : ∀ t m, unquoteS (trimL (after s.data.toList 61)) = some (t, m) → m ≤ (trimL (after s.data.toList 61)).length := fun t m h => unquoteS_n h
  have hvl : (trimL (after s.data.toList 61)).length ≤ 140737488355200 := by omega
  unfold Cuts at hc
  clear hM hMv ha ht hb hsl
  generalize after s.data.toList 61 = af at *
  generalize before s.data.toList 61 = be at *
  generalize has s.data.toList 61 = hh at *
  simp only [] at hU
  generalize trimL af = v at *
  cases hu : unquoteS v with
  | none =>
    rw [hu] at hU hP
    have HP := hid hP.out
    go_enter Tryz.func34, Tryz.ntmps34
    go_wp2_with (first | (go_at_call 74; refine (hc _).mono ?_; rintro e w1 ⟨rfl, b1⟩) | (go_at_call 73; refine (h1 _).mono ?_; rintro e w2 ⟨rfl, rfl⟩))
    have hsz1 : w.heap.size < w2.heap.size := Nat.lt_of_lt_of_le (by simp) b1.size
    have hT2 : Tabs w2 := hT.below (below_alloc (Nat.le_refl _) (b1.mono (by simp)))
    have hk2 : w2.heap[w.heap.size]? = some (.cells #[.string ⟨#[]⟩, .string ⟨#[]⟩] 53 (0, 0)) := (b1.block _ (by simp)).trans (heap_alloc_new w (.cells #[.string ⟨#[]⟩, .string ⟨#[]⟩] 53))
    have bw2 : Below w.heap.size w w2 := below_alloc (Nat.le_refl _) (b1.mono (by simp))
    refine (hU _ hT2).mono ?_
    rintro e w3 ⟨rfl, b3⟩
    have hk3 := (b3.block _ hsz1).trans hk2
    have bw3 : Below w.heap.size w w3 := bw2.trans (b3.mono (by omega))
    have c0 : w3.cell? ⟨w.heap.size, 0, none⟩ = some (.string ⟨#[]⟩) := held_cell hk3 rfl
    have c1 : w3.cell? ⟨w.heap.size, 1, none⟩ = some (.string ⟨#[]⟩) := held_cell hk3 rfl
    have f0 := held_frozen (i := 0) hk3
    have f1 := held_frozen (i := 1) hk3
    go_wp2
    refine bodyPost_ret (v := .tuple #[.agg #[.string ⟨#[]⟩, .string ⟨#[]⟩], .string ⟨#[]⟩, .bool false]) (by have hs := set_cells hk3 (.string ⟨#[]⟩) (.string ⟨#[]⟩); simp [results, go_sem, hs.1, hs.2]) rfl ?_
    rw [HP.out]
    exact ⟨rfl, (bw3.setCell (p := ⟨w.heap.size, 0, none⟩) (Nat.le_refl _) _).setCell (p := ⟨w.heap.size, 1, none⟩) (Nat.le_refl _) _⟩
  | some p =>
    obtain ⟨tx, n⟩ := p
    have hnl := hn tx n hu
    rw [hu] at hU hP
    have HP := hid hP.out
    have hex := Lib.extract_mk v n v.length
    rw [List.take_of_length_le (by rw [List.length_drop]; omega)] at hex
    clear hP hn hu
    go_enter Tryz.func34, Tryz.ntmps34
    go_wp2_with (first | (go_at_call 74; refine (hc _).mono ?_; rintro e w1 ⟨rfl, b1⟩) | (go_at_call 73; refine (h1 _).mono ?_; rintro e w2 ⟨rfl, rfl⟩))
    have hsz1 : w.heap.size < w2.heap.size := Nat.lt_of_lt_of_le (by simp) b1.size
    have hT2 : Tabs w2 := hT.below (below_alloc (Nat.le_refl _) (b1.mono (by simp)))
    have hk2 : w2.heap[w.heap.size]? = some (.cells #[.string ⟨#[]⟩, .string ⟨#[]⟩] 53 (0, 0)) := (b1.block _ (by simp)).trans (heap_alloc_new w (.cells #[.string ⟨#[]⟩, .string ⟨#[]⟩] 53))
    have bw2 : Below w.heap.size w w2 := below_alloc (Nat.le_refl _) (b1.mono (by simp))
    refine (hU _ hT2).mono ?_
    rintro e w3 ⟨rfl, b3⟩
    have hk3 := (b3.block _ hsz1).trans hk2
    have bw3 : Below w.heap.size w w3 := bw2.trans (b3.mono (by omega))
    have c0 : w3.cell? ⟨w.heap.size, 0, none⟩ = some (.string ⟨#[]⟩) := held_cell hk3 rfl
    have c1 : w3.cell? ⟨w.heap.size, 1, none⟩ = some (.string ⟨#[]⟩) := held_cell hk3 rfl
    have f0 := held_frozen (i := 0) hk3
    have f1 := held_frozen (i := 1) hk3
    clear hU h1 hc hT2 hk2 bw2 b3 b1
    go_wp2
    go_region_with (go_at_call 76; refine (hR _).mono ?_; rintro e w4 ⟨rfl, rfl⟩)
    go_wp2
    refine bodyPost_ret (v := .tuple #[.agg #[.string ⟨(trimR be).toArray⟩, .string ⟨tx.toArray⟩], .string ⟨(v.drop n).toArray⟩, .bool true]) (by have hs := set_cells hk3 (.string ⟨(trimR be).toArray⟩) (.string ⟨tx.toArray⟩); simp [results, go_sem, hs.1, hs.2]) rfl ?_
    rw [HP.out]
    exact ⟨rfl, ((bw3.setCell (p := ⟨w.heap.size, 0, none⟩) (Nat.le_refl _) _).setCell (p := ⟨w.heap.size, 1, none⟩) (Nat.le_refl _) _).drew⟩
end Go.Proofs.YtlhodanpfpfodaaGreatDoor
