/-
  What the reference's Parse of labels answers: what rparseS says, sorted. Conditions: the text has at most 2^40 bytes.
-/
import Derived.Test.YthgmmloocdfphaaGreatDoorScan
import Derived.Test.YthgmmloocdfphaaGreatDoorRefSort
import Derived.Test.YthgmmloocdfphaaGreatDoorPrint
namespace Go.Icz
open Go.RowKit
theorem ScanAt.new (w : World) (s : ByteArray) (t : TypeId) : ScanAt (w.alloc (.cells #[.string s, .int .i64 0] t)) w.heap.size s 0 := by
  have h := heap_alloc_new w (.cells #[.string s, .int .i64 0] t)
  refine ⟨by simp, Nat.zero_le _, ?_, ?_, ?_⟩
  · rw [cell_of_row _ _ _ _ _ _ h]; rfl
  · rw [cell_of_row _ _ _ _ _ _ h]; rfl
  · unfold World.frozen?; simp only [h]; rfl
theorem ScanAt.far {w w' : World} {g b : Nat} {s : ByteArray} {a : Nat} (h : ScanAt w g s a) (hg : w.grownBy w' (some b)) (hne : b ≠ g) : ScanAt w' g s a := by
  obtain ⟨h1, h2, c0, c1, f1⟩ := h
  have hb := hg.block g h1 (fun e => by injection e with e; exact hne e.symm)
  exact ⟨Nat.lt_of_lt_of_le h1 hg.size, h2, by unfold World.cell? at *; rw [hb]; exact c0, by unfold World.cell? at *; rw [hb]; exact c1, by unfold World.frozen? at *; rw [hb]; exact f1⟩
theorem row_far {w w' : World} {g b : Nat} {cs : Array Value} {t : TypeId} (h : w.heap[b]? = some (.cells cs t (0, 0))) (hg : w.grownBy w' (some g)) (hne : g ≠ b) : w'.heap[b]? = some (.cells cs t (0, 0)) :=
  (hg.block b (Array.getElem?_eq_some_iff.1 h).1 (fun e => by injection e with e; exact hne e.symm)).trans h
theorem below_far {B : Nat} {w w' w2 : World} {g : Nat} (h : Below B w w') (hg : w'.grownBy w2 (some g)) (hB : B ≤ w.heap.size) (hBg : B ≤ g) : Below B w w2 :=
  h.grown hg (Nat.le_trans hB h.size) (fun k hk => by cases hk; exact hBg)
def roundsLeft (a b : Value) (n : Nat) : Nat := match a, b with | .bool true, .bool true => n + 1 | _, _ => 0
end Go.Icz
namespace Go.Proofs.YthgmmloocdfphaaGreatDoor
open Go.RowKit Go.Icz
theorem runq_len : ∀ (f : Nat) (rest acc : B8) (n : Nat) (x : B8) (m : Nat), runq f rest acc n = some (x, m) → acc.length ≤ n → x.length ≤ m ∧ m ≤ n + rest.length
  | 0, _, _, _, _, _, h, _ => by cases h
  | f + 1, [], _, _, _, _, h, _ => by cases h
  | f + 1, b :: t, acc, n, x, m, h, ha => by
    rw [runq_cons] at h
    split at h
    · split at h
      · simp only [Option.some.injEq, Prod.mk.injEq] at h
        obtain ⟨rfl, rfl⟩ := h
        exact ⟨by omega, by simp⟩
      · cases h
    · split at h
      · split at h
        · cases h
        · rename_i c k he
          have hk := escS_lt he
          have := runq_len f _ _ _ _ _ h (by simp; omega)
          rw [List.length_drop] at this
          exact ⟨this.1, by simp; omega⟩
      · split at h
        · cases h
        · have := runq_len f _ _ _ _ _ h (by simp; omega)
          exact ⟨this.1, by simp; omega⟩
theorem runquote_len {l v : B8} {n : Nat} (h : runquoteS l = some (v, n)) : v.length ≤ n ∧ n ≤ l.length := by
  unfold runquoteS at h
  split at h
  · rename_i t
    have := runq_len _ _ _ _ _ _ h (by simp)
    exact ⟨this.1, by simp; omega⟩
  · cases h
/-- What stands behind the labels' end. -/
def rfin : Option (List Lab × B8) → Option (List Lab)
  | some (l, 125 :: u) => if trimL u = [] then some l else none
  | _ => none
theorem rparse_fin (s : B8) : rparseS s = match trimL s with | 123 :: t => rfin (rloop (s.length + 1) t []) | _ => none := by
  unfold rparseS
  split
  · rename_i t ht
    rw [ht]
    simp only
    split
    · rename_i l u hl; rw [hl]; rfl
    · rename_i hl
      unfold rfin
      split
      · rename_i l u hl2; exact absurd hl2 (hl l u)
      · rfl
  · rename_i hs
    split
    · rename_i t ht; exact absurd ht (hs t)
    · rfl
/-- What the reference's Parse answers, told of what was read. -/
def RParseOut (o : Option (List Lab)) (w : World) (e : Ending) (w' : World) : Prop :=
  (match o with
    | some l => (16 < l.length ∧ e = .returned (.tuple #[.slice none 0 0, .int .i64 30])) ∨
      ∃ d, Sorts l d ∧ ((rightS d = true ∧ ∃ v, e = .returned (.tuple #[v, .int .i64 0]) ∧ RdL w' v d) ∨ (rightS d = false ∧ e = .returned (.tuple #[.slice none 0 0, .int .i64 30])))
    | none => e = .returned (.tuple #[.slice none 0 0, .int .i64 30])) ∧ Below w.heap.size w w'
/-- How the reading stands: it goes on, it has come to its end, or it is none. -/
def RState (s : B8) (rest : B8) (acc : List Lab) (ok more : Bool) : Prop :=
  (ok = true → acc.length ≤ 16) ∧ acc.length ≤ 17 ∧
  (ok = true → more = true → ∃ f, rest.length < f ∧ rparseS s = rfin (rloop f rest acc)) ∧ (ok = true → more = false → rparseS s = rfin (some (acc, rest))) ∧ (ok = false → rparseS s = none)

theorem rest_le {s : ByteArray} {a : Nat} : (s.data.toList.drop a).length ≤ s.size := by rw [List.length_drop, size_len]; omega
theorem takeW_le (p : UInt8 → Bool) (l : B8) : (l.takeWhile p).length ≤ l.length := by
  have := congrArg List.length (List.takeWhile_append_dropWhile (p := p) (l := l))
  rw [List.length_append] at this
  omega
theorem dropW_le (p : UInt8 → Bool) (l : B8) : (l.dropWhile p).length ≤ l.length := by
  have := congrArg List.length (List.takeWhile_append_dropWhile (p := p) (l := l))
  rw [List.length_append] at this
  omega
/-- Is, of a sign that is a number. -/
theorem Is_num (x : UInt8) (n : Int) (hn : (x.toNat : Int) = n) (g a : Nat) (s : ByteArray) (w : World) (h : ScanAt w g s a) (hs : s.size ≤ 140737488355328) :
    Calls Tryz.prog 37 #[.pointer (some ⟨g, 0, none⟩), .int .u8 n] w fun e w' => w.grownBy w' (some g) ∧ ∃ (b : Bool) (a' : Nat), e = .returned (.bool b) ∧ ScanAt w' g s a' ∧
      ((b = true ∧ s.data.toList.drop a = x :: s.data.toList.drop a') ∨ (b = false ∧ (∀ t, s.data.toList.drop a ≠ x :: t) ∧ a' = a)) := by
  subst hn
  refine (Is_is g a x s w h hs).mono ?_
  rintro e w' ⟨hg, ⟨t, ht, he, hA, h2⟩ | ⟨ht, he, hA⟩⟩
  · exact ⟨hg, true, a + 1, he, hA, .inl ⟨rfl, by rw [ht, h2]⟩⟩
  · exact ⟨hg, false, a, he, hA, .inr ⟨rfl, ht, rfl⟩⟩
theorem Quoted_num (g a : Nat) (s : ByteArray) (w : World) (h : ScanAt w g s a) (hs : s.size ≤ 140737488355200) :
    Calls Tryz.prog 39 #[.pointer (some ⟨g, 0, none⟩)] w fun e w' => w.grownBy w' (some g) ∧ ∃ (v : B8) (b : Bool) (a' : Nat), e = .returned (.tuple #[.string ⟨v.toArray⟩, .bool b]) ∧ ScanAt w' g s a' ∧ v.length ≤ s.size ∧
      ((b = true ∧ ∃ n, runquoteS (s.data.toList.drop a) = some (v, n) ∧ s.data.toList.drop a' = (s.data.toList.drop a).drop n) ∨ (b = false ∧ runquoteS (s.data.toList.drop a) = none)) := by
  refine (Quoted_is g a s w h hs (fun v n hv => (runquote_len hv).2)).mono ?_
  rintro e w' ⟨hg, hq⟩
  refine ⟨hg, ?_⟩
  unfold QuotedOut at hq
  cases hr : runquoteS (s.data.toList.drop a) with
  | none =>
    rw [hr] at hq
    exact ⟨[], false, a, hq.1, hq.2, by simp, .inr ⟨rfl, rfl⟩⟩
  | some y =>
    obtain ⟨v, n⟩ := y
    rw [hr] at hq
    have := runquote_len hr
    have h2 := rest_le (s := s) (a := a)
    exact ⟨v, true, a + n, hq.1, hq.2, by omega, .inl ⟨rfl, n, rfl, by rw [List.drop_drop]⟩⟩
/-- One round of the reading, by what it met. -/
theorem RState.next {s rest : B8} {acc : List Lab} {a1 a2 a3 r4 r5 r6 r7 r8 : B8} {v : B8} {b1 is b2 : Bool} (h : RState s rest acc true true)
    (h1 : a1 = trimL rest) (h2 : a2 = a1.dropWhile wordch) (h3 : a3 = trimL a2)
    (h4 : (b1 = true ∧ a3 = 61 :: r4) ∨ (b1 = false ∧ (∀ t, a3 ≠ 61 :: t) ∧ r4 = a3)) (h5 : r5 = trimL r4)
    (h6 : (is = true ∧ ∃ n, runquoteS r5 = some (v, n) ∧ r6 = r5.drop n) ∨ (is = false ∧ runquoteS r5 = none)) (h7 : r7 = trimL r6)
    (h8 : (b2 = true ∧ r7 = 44 :: r8) ∨ (b2 = false ∧ (∀ t, r7 ≠ 44 :: t) ∧ r8 = r7)) :
    RState s r8 (acc ++ [(a1.takeWhile wordch, v)]) (b1 && is && decide (acc.length < 16)) b2 ∧ ((b1 && is && decide (acc.length < 16)) = true → b2 = true → r8.length < rest.length) := by
  obtain ⟨k1, k2, k3, k4, k5⟩ := h
  obtain ⟨f, hf, hp⟩ := k3 rfl rfl
  subst h1 h2 h3 h5 h7
  obtain ⟨f, rfl⟩ : ∃ g, f = g + 1 := ⟨f - 1, by omega⟩
  have hlen := k1 rfl
  cases b1 with
  | false =>
    rcases h4 with ⟨h, _⟩ | ⟨_, hn, _⟩
    · cases h
    · refine ⟨⟨fun h => (by simp at h), by simp; omega, fun h => (by simp at h), fun h => (by simp at h), fun _ => ?_⟩, fun h => (by simp at h)⟩
      rw [hp]
      unfold rloop
      split
      · rename_i s2 h; exact absurd h (hn s2)
      · rfl
  | true =>
    rcases h4 with ⟨_, h4⟩ | ⟨h, _⟩
    · cases is with
      | false =>
        rcases h6 with ⟨h, _⟩ | ⟨_, hn⟩
        · cases h
        · refine ⟨⟨fun h => (by simp at h), by simp; omega, fun h => (by simp at h), fun h => (by simp at h), fun _ => ?_⟩, fun h => (by simp at h)⟩
          rw [hp]
          unfold rloop
          rw [h4]
          simp only [hn]
          rfl
      | true =>
        rcases h6 with ⟨_, n, hq, rfl⟩ | ⟨h, _⟩
        · by_cases h16 : acc.length < 16
          · rw [decide_eq_true h16]
            have hl : r8.length < rest.length ∧ True := by
              have e1 := trimL_le rest
              have e2 := dropW_le wordch (trimL rest)
              have e3 := trimL_le ((trimL rest).dropWhile wordch)
              have e4 := trimL_le r4
              have e5 := trimL_le ((trimL r4).drop n)
              have e6 := congrArg List.length h4
              have e7 : r8.length ≤ (trimL ((trimL r4).drop n)).length := by
                rcases h8 with ⟨_, h8⟩ | ⟨_, _, h8⟩
                · rw [h8]; simp
                · rw [h8]; exact Nat.le_refl _
              rw [List.length_drop] at e5
              rw [List.length_cons] at e6
              exact ⟨by omega, trivial⟩
            have hst : rloop (f + 1) rest acc = (match trimL ((trimL r4).drop n) with
              | 44 :: s4 => rloop f s4 (acc ++ [((trimL rest).takeWhile wordch, v)])
              | s3 => some (acc ++ [((trimL rest).takeWhile wordch, v)], s3)) := by
              conv => lhs; unfold rloop
              rw [h4]
              simp only [hq, if_pos h16]
              rfl
            rw [hst] at hp
            rcases h8 with ⟨rfl, h8⟩ | ⟨rfl, hn, rfl⟩
            · rw [h8] at hp
              exact ⟨⟨fun _ => (by simp; omega), (by simp; omega), fun _ _ => ⟨f, (by omega), hp⟩, fun _ h => (by cases h), fun h => (by cases h)⟩, fun _ _ => hl.1⟩
            · refine ⟨⟨fun _ => (by simp; omega), (by simp; omega), fun _ h => (by cases h), fun _ _ => ?_, fun h => (by cases h)⟩, fun _ h => (by cases h)⟩
              rw [hp]
              congr 1
              split
              · rename_i s4 h; exact absurd h (hn s4)
              · rfl
          · rw [decide_eq_false h16]
            refine ⟨⟨fun h => (by simp at h), by simp; omega, fun h => (by simp at h), fun h => (by simp at h), fun _ => ?_⟩, fun h => (by simp at h)⟩
            rw [hp]
            unfold rloop
            rw [h4]
            simp only [hq, if_neg h16]
            rfl
        · cases h
    · cases h
theorem rd_lab (w : World) (x : Lab) : RdL (w.alloc (.cells #[.string ⟨x.1.toArray⟩, .string ⟨x.2.toArray⟩] 53)) (.slice (some ⟨w.heap.size, 0, none⟩) 1 1) [x] := (OwnL_one w x (Nat.le_refl _)).rd

theorem _root_.Go.Icz.ScanAt.belowB {w w' : World} {g B : Nat} {s : ByteArray} {a : Nat} (h : ScanAt w g s a) (hb : Below B w w') (hg : g < B) : ScanAt w' g s a := by
  obtain ⟨h1, h2, c0, c1, f1⟩ := h
  exact ⟨Nat.lt_of_lt_of_le h1 hb.size, h2, (hb.cell (p := ⟨g, 0, none⟩) hg).trans c0, (hb.cell (p := ⟨g, 1, none⟩) hg).trans c1, (hb.frozen (p := ⟨g, 1, none⟩) hg).trans f1⟩
theorem rd_set1 (w : World) (b : Nat) (u : Value) (x : Lab) : RdL ((w.setCell ⟨b, 1, none⟩ u).alloc (.cells #[.string ⟨x.1.toArray⟩, .string ⟨x.2.toArray⟩] 53)) (.slice (some ⟨w.heap.size, 0, none⟩) 1 1) [x] := by
  have h := (OwnL_one (w.setCell ⟨b, 1, none⟩ u) x (Nat.le_refl _)).rd
  have e : (w.setCell ⟨b, 1, none⟩ u).heap.size = w.heap.size := by simp [World.setCell]
  rw [e] at h
  exact h
theorem grownNew {w w4 : World} {cs : Array Value} {t : TypeId} {g : Nat} (hg : (w.alloc (.cells cs t)).grownBy w4 (some g)) (hne : g < w.heap.size) : w4.heap[w.heap.size]? = some (.cells cs t (0, 0)) :=
  (hg.block _ (by simp) (fun e => by cases e; omega)).trans (heap_alloc_new w (.cells cs t))
theorem _root_.Go.Icz.OwnL.off {w w' : World} {B b : Nat} {v : Value} {l : List Lab} (h : OwnL w B v l) (hg : w.grownBy w' (some b)) (hb : b < B) : OwnL w' B v l := by
  refine World.ownsRow.kept h hg ?_
  cases hv : v.ownBlock with
  | none => exact .inl rfl
  | some k => exact .inr (fun e => by injection e with e; have := (World.ownsRow.lt h k hv).1; omega)
theorem _root_.Go.Icz.OwnL.away {w w' : World} {B b : Nat} {v : Value} {l : List Lab} (h : OwnL w B v l) (hg : w.grownBy w' (some b)) (hb : ∀ k, v.ownBlock = some k → k < b) : OwnL w' B v l := by
  refine World.ownsRow.kept h hg ?_
  cases hv : v.ownBlock with
  | none => exact .inl rfl
  | some k => exact .inr (fun e => by injection e with e; have := hb k hv; omega)
theorem Blanks_h (g a : Nat) (s : ByteArray) (w : World) (h : ScanAt w g s a) (hs : s.size ≤ 140737488355200) :
    Calls Tryz.prog 36 #[.pointer (some ⟨g, 0, none⟩)] w fun e w' => e = .returned (.tuple #[]) ∧ w.grownBy w' (some g) ∧ ∃ a', ScanAt w' g s a' ∧ Hid (s.data.toList.drop a' = trimL (s.data.toList.drop a)) := Blanks_is g a s w h (by omega)
theorem Word_h (g a : Nat) (s : ByteArray) (w : World) (h : ScanAt w g s a) (hs : s.size ≤ 140737488355200) :
    Calls Tryz.prog 38 #[.pointer (some ⟨g, 0, none⟩)] w fun e w' => ∃ (nm : B8) (a' : Nat), e = .returned (.string ⟨nm.toArray⟩) ∧ w.grownBy w' (some g) ∧ ScanAt w' g s a' ∧ nm.length ≤ s.size ∧ Hid (nm = (s.data.toList.drop a).takeWhile wordch ∧ s.data.toList.drop a' = (s.data.toList.drop a).dropWhile wordch) := by
  refine (Word_is g a s w h (by omega)).mono ?_
  rintro e w' ⟨he, hg, a', hA, hd⟩
  exact ⟨_, a', he, hg, hA, Nat.le_trans (takeW_le _ _) rest_le, hid ⟨rfl, hd⟩⟩
def IsOut (x : UInt8) (s : ByteArray) (a : Nat) (b : Bool) (a' : Nat) : Prop := (b = true ∧ s.data.toList.drop a = x :: s.data.toList.drop a') ∨ (b = false ∧ (∀ t, s.data.toList.drop a ≠ x :: t) ∧ a' = a)
def QtOut (s : ByteArray) (a : Nat) (v : B8) (b : Bool) (a' : Nat) : Prop := (b = true ∧ ∃ n, runquoteS (s.data.toList.drop a) = some (v, n) ∧ s.data.toList.drop a' = (s.data.toList.drop a).drop n) ∨ (b = false ∧ runquoteS (s.data.toList.drop a) = none)
theorem Is_h (x : UInt8) (n : Int) (hn : (x.toNat : Int) = n) (g a : Nat) (s : ByteArray) (w : World) (h : ScanAt w g s a) (hs : s.size ≤ 140737488355200) :
    Calls Tryz.prog 37 #[.pointer (some ⟨g, 0, none⟩), .int .u8 n] w fun e w' => w.grownBy w' (some g) ∧ ∃ (b : Bool) (a' : Nat), e = .returned (.bool b) ∧ ScanAt w' g s a' ∧ IsOut x s a b a' := Is_num x n hn g a s w h (by omega)
theorem Quoted_h (g a : Nat) (s : ByteArray) (w : World) (h : ScanAt w g s a) (hs : s.size ≤ 140737488355200) :
    Calls Tryz.prog 39 #[.pointer (some ⟨g, 0, none⟩)] w fun e w' => w.grownBy w' (some g) ∧ ∃ (v : B8) (b : Bool) (a' : Nat), e = .returned (.tuple #[.string ⟨v.toArray⟩, .bool b]) ∧ ScanAt w' g s a' ∧ v.length ≤ s.size ∧ QtOut s a v b a' := Quoted_num g a s w h hs
theorem IsOut.yes {x : UInt8} {s : ByteArray} {a a' : Nat} {b : Bool} {t : B8} (h : IsOut x s a b a') (e : s.data.toList.drop a = x :: t) : b = true := by
  rcases h with ⟨h, _⟩ | ⟨_, h, _⟩
  · exact h
  · exact absurd e (h t)
theorem IsOut.no {x : UInt8} {s : ByteArray} {a a' : Nat} {b : Bool} (h : IsOut x s a b a') (e : ∀ t, s.data.toList.drop a ≠ x :: t) : b = false := by
  rcases h with ⟨_, h⟩ | ⟨h, _⟩
  · exact absurd h (e _)
  · exact h
theorem QtOut.yes {s : ByteArray} {a a' : Nat} {b : Bool} {v v2 : B8} {n : Nat} (h : QtOut s a v b a') (e : runquoteS (s.data.toList.drop a) = some (v2, n)) : b = true := by
  rcases h with ⟨h, _⟩ | ⟨_, h⟩
  · exact h
  · rw [e] at h; cases h
theorem QtOut.no {s : ByteArray} {a a' : Nat} {b : Bool} {v : B8} (h : QtOut s a v b a') (e : runquoteS (s.data.toList.drop a) = none) : b = false := by
  rcases h with ⟨_, n, h, _⟩ | ⟨h, _⟩
  · rw [e] at h; cases h
  · exact h
end Go.Proofs.YthgmmloocdfphaaGreatDoor
