/-
  The words of a query that a number stands behind. Condition: the query lies in a block.
  The text that matcher's Parse reads: the words. Conditions: those that each theorem names.
  The text that matcher's Parse reads: the words, all of them. Conditions: those that each theorem names.
-/
import Derived.Test.YtlhodanpfpfodaaGreatDoorMat
namespace Go.Proofs.YtlhodanpfpfodaaGreatDoor
open Go.RowKit Go.Icz
/-- The row of number words: the query in block b. -/
def nwCells (b : Nat) : Array Value := #[.string ⟨#[102, 114, 111, 109]⟩, .pointer (some ⟨b, 2, none⟩), .int .i64 0, .string ⟨#[116, 111]⟩, .pointer (some ⟨b, 3, none⟩), .int .i64 1099511627776, .string ⟨#[108, 105, 109, 105, 116]⟩, .pointer (some ⟨b, 4, none⟩), .int .i64 0]
set_option maxHeartbeats 2000000 in
set_option maxRecDepth 100000 in
theorem numberWords_is (b : Nat) (w : World) :
    Calls Tryz.prog 64 #[.pointer (some ⟨b, 0, none⟩)] w fun e w' => ∃ n, e = .returned (.slice (some ⟨n, 0, none⟩) 3 3) ∧ Below w.heap.size w w' ∧ w.heap.size ≤ n ∧ w'.heap[n]? = some (.cells (nwCells b) 118 (0, 0)) := by
  go_enter Tryz.func64, Tryz.ntmps64
  go_wp2_with fail
  go_region
  go_wp2_with fail
  go_ret
  refine ⟨w.heap.size, rfl, ?_, Nat.le_refl _, ?_⟩
  · exact ((Below.refl _ w).drew).alloc (Nat.le_refl _) _
  · exact heap_alloc_new w.drew _
end Go.Proofs.YtlhodanpfpfodaaGreatDoor
namespace Go.Proofs.YtlhodanpfpfodaaGreatDoor
open Go.RowKit Go.Icz
/-- The word 'has', and the text behind it. -/
def hasStep (l h0 : B8) : Option (B8 × B8) := match wordP [104, 97, 115] l with
  | none => some (l, h0)
  | some r => if blankS r = true ∧ (quotedOut (trimL r)).2.2 = true then some ((quotedOut (trimL r)).2.1, (quotedOut (trimL r)).1) else none
/-- A word, and the number behind it. -/
def numStep (name : B8) (d : Int) (l : B8) : Option (B8 × Int) := match wordP name l with
  | none => some (l, d)
  | some r => if blankS r = true ∧ (numV ((trimL r).takeWhile dch)).2 = true then some ((trimL r).dropWhile dch, (numV ((trimL r).takeWhile dch)).1) else none
/-- The text and the query that is being read, since w0. -/
structure QSt (g b : Nat) (mv : Value) (w0 w : World) (l h : B8) (fr up lim : Int) (nw : Bool) : Prop where
  tx : TxAt w g l
  row : w.heap[b]? = some (.cells #[mv, .string ⟨h.toArray⟩, .int .i64 fr, .int .i64 up, .int .i64 lim, .bool nw] 40 (0, 0))
  tch : Tch (fun k => k = g ∨ k = b) w0 w
section
variable {g b : Nat} {mv : Value} {w0 w : World} {l h : B8} {fr up lim : Int} {nw : Bool}
theorem QSt.tabs (s : QSt g b mv w0 w l h fr up lim nw) (hT : TabsM w0) (h9 : 9 ≤ g) (hb9 : 9 ≤ b) (h0 : 9 ≤ w0.heap.size) : TabsM w :=
  hT.touch s.tch (fun j hj => by rcases hj with rfl | rfl <;> assumption) h0
theorem QSt.text {w' : World} {m : B8} (s : QSt g b mv w0 w l h fr up lim nw) (hne : b ≠ g) (x : TxAt w' g m) (k : Tch (· = g) w w') : QSt g b mv w0 w' m h fr up lim nw :=
  ⟨x, k.row s.row (by omega), s.tch.trans (k.mono fun _ hk => .inl hk)⟩
theorem QSt.word (s : QSt g b mv w0 w l h fr up lim nw) (hne : b ≠ g) (p : B8) : Calls Tryz.prog 93 #[.pointer (some ⟨g, 0, none⟩), .string ⟨p.toArray⟩] w fun e w' => e = .returned (.bool (wordOut (wordP p l) l).1) ∧ QSt g b mv w0 w' (wordOut (wordP p l) l).2 h fr up lim nw :=
  (Tword_is g l p w s.tx).mono fun _ _ ⟨h1, h2, h3⟩ => ⟨h1, s.text hne h2 h3⟩
theorem QSt.blanks (s : QSt g b mv w0 w l h fr up lim nw) (hne : b ≠ g) : Calls Tryz.prog 57 #[.pointer (some ⟨g, 0, none⟩)] w fun e w' => e = .returned (.bool (blankS l)) ∧ QSt g b mv w0 w' (trimL l) h fr up lim nw :=
  (Tblanks_is g l w s.tx).mono fun _ _ ⟨h1, h2, h3⟩ => ⟨h1, s.text hne h2 h3⟩
theorem QSt.quoted (s : QSt g b mv w0 w l h fr up lim nw) (hne : b ≠ g) (hl : l.length ≤ 1099511627776) (hT : TabsM w0) (h9 : 9 ≤ g) (hb9 : 9 ≤ b) (h0 : 9 ≤ w0.heap.size) : Calls Tryz.prog 94 #[.pointer (some ⟨g, 0, none⟩), .pointer (some ⟨b, 1, none⟩)] w fun e w' => e = .returned (.bool (quotedOut l).2.2) ∧ QSt g b mv w0 w' (quotedOut l).2.1 (quotedOut l).1 fr up lim nw :=
  (Tquoted_is g b 1 l _ _ _ w s.tx s.row rfl hne hl (s.tabs hT h9 hb9 h0).tabs).mono fun _ _ ⟨h1, h2, h3, h4⟩ => ⟨h1, h2, h3, s.tch.trans h4⟩
theorem QSt.from (s : QSt g b mv w0 w l h fr up lim nw) (hne : b ≠ g) (hl : l.length ≤ 1099511627776) (hT : TabsM w0) (h9 : 9 ≤ g) (hb9 : 9 ≤ b) (h0 : 9 ≤ w0.heap.size) : Calls Tryz.prog 95 #[.pointer (some ⟨g, 0, none⟩), .pointer (some ⟨b, 2, none⟩)] w fun e w' => e = .returned (.bool (numV (l.takeWhile dch)).2) ∧ QSt g b mv w0 w' (l.dropWhile dch) h (numV (l.takeWhile dch)).1 up lim nw :=
  (Tnumber_is g b 2 l _ _ _ w s.tx s.row rfl hne hl (s.tabs hT h9 hb9 h0) h9 hb9).mono fun _ _ ⟨h1, h2, h3, h4⟩ => ⟨h1, h2, h3, s.tch.trans h4⟩
theorem QSt.upto (s : QSt g b mv w0 w l h fr up lim nw) (hne : b ≠ g) (hl : l.length ≤ 1099511627776) (hT : TabsM w0) (h9 : 9 ≤ g) (hb9 : 9 ≤ b) (h0 : 9 ≤ w0.heap.size) : Calls Tryz.prog 95 #[.pointer (some ⟨g, 0, none⟩), .pointer (some ⟨b, 3, none⟩)] w fun e w' => e = .returned (.bool (numV (l.takeWhile dch)).2) ∧ QSt g b mv w0 w' (l.dropWhile dch) h fr (numV (l.takeWhile dch)).1 lim nw :=
  (Tnumber_is g b 3 l _ _ _ w s.tx s.row rfl hne hl (s.tabs hT h9 hb9 h0) h9 hb9).mono fun _ _ ⟨h1, h2, h3, h4⟩ => ⟨h1, h2, h3, s.tch.trans h4⟩
theorem QSt.limit (s : QSt g b mv w0 w l h fr up lim nw) (hne : b ≠ g) (hl : l.length ≤ 1099511627776) (hT : TabsM w0) (h9 : 9 ≤ g) (hb9 : 9 ≤ b) (h0 : 9 ≤ w0.heap.size) : Calls Tryz.prog 95 #[.pointer (some ⟨g, 0, none⟩), .pointer (some ⟨b, 4, none⟩)] w fun e w' => e = .returned (.bool (numV (l.takeWhile dch)).2) ∧ QSt g b mv w0 w' (l.dropWhile dch) h fr up (numV (l.takeWhile dch)).1 nw :=
  (Tnumber_is g b 4 l _ _ _ w s.tx s.row rfl hne hl (s.tabs hT h9 hb9 h0) h9 hb9).mono fun _ _ ⟨h1, h2, h3, h4⟩ => ⟨h1, h2, h3, s.tch.trans h4⟩
theorem QSt.below {w' : World} (s : QSt g b mv w0 w l h fr up lim nw) (k : Below w.heap.size w w') : QSt g b mv w0 w' l h fr up lim nw :=
  ⟨(k.block g s.tx.lt).trans s.tx, (k.block b (Array.getElem?_eq_some_iff.1 s.row).1).trans s.row, s.tch.trans (.of_below k)⟩
theorem QSt.rebase (s : QSt g b mv w0 w l h fr up lim nw) : QSt g b mv w w l h fr up lim nw := ⟨s.tx, s.row, .refl _ _⟩
theorem QSt.set (s : QSt g b mv w0 w l h fr up lim nw) (hne : b ≠ g) (j : Nat) (v : Value) {h' : B8} {fr' up' lim' : Int} {nw' : Bool} (e : (#[mv, .string ⟨h.toArray⟩, .int .i64 fr, .int .i64 up, .int .i64 lim, .bool nw] : Array Value).setIfInBounds j v = #[mv, .string ⟨h'.toArray⟩, .int .i64 fr', .int .i64 up', .int .i64 lim', .bool nw']) :
    QSt g b mv w0 (w.setCell ⟨b, j, none⟩ v) l h' fr' up' lim' nw' := by
  have k7 := Tch.set (· = b) w ⟨b, j, none⟩ v rfl
  have r := row_set (i := j) s.row v
  rw [e] at r
  exact ⟨s.tx.touch k7 (by omega), r, s.tch.trans (k7.mono fun _ hk => .inr hk)⟩
end
end Go.Proofs.YtlhodanpfpfodaaGreatDoor
namespace Go.Proofs.YtlhodanpfpfodaaGreatDoor
open Go.RowKit Go.Icz
abbrev QRes := B8 × B8 × Int × Int × Int × Bool
def rest3 (l h : B8) (fr up lim : Int) : Option QRes := some ((wordOut (wordP [110, 101, 119, 101, 115, 116] l) l).2, h, fr, up, lim, (wordOut (wordP [110, 101, 119, 101, 115, 116] l) l).1)
def rest2 (l h : B8) (fr up : Int) : Option QRes := match numStep [108, 105, 109, 105, 116] 0 l with
  | none => none
  | some (r, n) => rest3 r h fr up n
def rest1 (l h : B8) (fr : Int) : Option QRes := match numStep [116, 111] 1099511627776 l with
  | none => none
  | some (r, n) => rest2 r h fr n
def rest0 (l h : B8) : Option QRes := match numStep [102, 114, 111, 109] 0 l with
  | none => none
  | some (r, n) => rest1 r h n
/-- What is read from the i-th number word on. -/
def restAt (i : Nat) (l h : B8) (fr up lim : Int) : Option QRes := match i with
  | 0 => rest0 l h
  | 1 => rest1 l h fr
  | 2 => rest2 l h fr up
  | _ => rest3 l h fr up lim
/-- The words, as the program reads them. -/
def wordsS (l h0 : B8) : Option QRes := match hasStep l h0 with
  | none => none
  | some (r, h) => rest0 r h
theorem wordP_le {p l r : B8} (h : wordP p l = some r) : r.length ≤ l.length := by
  unfold wordP at h
  split at h
  · rename_i t
    split at h
    · injection h with h
      subst h
      have := trimL_le t
      rw [List.length_drop, List.length_cons]
      have e : Lib.trimLeftB t 32 = trimL t := rfl
      rw [e]
      omega
    · cases h
  · cases h
theorem quotedOut_le (l : B8) : (quotedOut l).2.1.length ≤ l.length := by
  unfold quotedOut
  cases unquoteS l with
  | none => exact Nat.le_refl _
  | some y => simp only [List.length_drop]; omega
theorem numStep_skip {p l : B8} {d : Int} (h : wordP p l = none) : numStep p d l = some (l, d) := by unfold numStep; rw [h]
theorem numStep_blank {p l r : B8} {d : Int} (h : wordP p l = some r) (hb : blankS r = false) : numStep p d l = none := by
  unfold numStep; rw [h]; simp [hb]
theorem numStep_bad {p l r : B8} {d : Int} (h : wordP p l = some r) (hn : (numV ((trimL r).takeWhile dch)).2 = false) : numStep p d l = none := by
  unfold numStep; rw [h]; simp [hn]
theorem numStep_ok {p l r : B8} {d : Int} (h : wordP p l = some r) (hb : blankS r = true) (hn : (numV ((trimL r).takeWhile dch)).2 = true) : numStep p d l = some ((trimL r).dropWhile dch, (numV ((trimL r).takeWhile dch)).1) := by
  unfold numStep; rw [h]; simp [hb, hn]
theorem rest_no0 {l h : B8} {fr up lim : Int} (e : numStep [102, 114, 111, 109] 0 l = none) : restAt 0 l h fr up lim = none := by
  show rest0 l h = none
  unfold rest0; rw [e]
theorem rest_yes0 {l h r : B8} {n fr up lim : Int} (e : numStep [102, 114, 111, 109] 0 l = some (r, n)) : restAt 0 l h fr up lim = restAt 1 r h n up lim := by
  show rest0 l h = _
  unfold rest0; rw [e]; rfl
theorem rest_no1 {l h : B8} {fr up lim : Int} (e : numStep [116, 111] 1099511627776 l = none) : restAt 1 l h fr up lim = none := by
  show rest1 l h fr = none
  unfold rest1; rw [e]
theorem rest_yes1 {l h r : B8} {n fr up lim : Int} (e : numStep [116, 111] 1099511627776 l = some (r, n)) : restAt 1 l h fr up lim = restAt 2 r h fr n lim := by
  show rest1 l h fr = _
  unfold rest1; rw [e]; rfl
theorem rest_no2 {l h : B8} {fr up lim : Int} (e : numStep [108, 105, 109, 105, 116] 0 l = none) : restAt 2 l h fr up lim = none := by
  show rest2 l h fr up = none
  unfold rest2; rw [e]
theorem rest_yes2 {l h r : B8} {n fr up lim : Int} (e : numStep [108, 105, 109, 105, 116] 0 l = some (r, n)) : restAt 2 l h fr up lim = restAt 3 r h fr up n := by
  show rest2 l h fr up = _
  unfold rest2; rw [e]; rfl
set_option maxHeartbeats 4000000 in
set_option maxRecDepth 100000 in
theorem Twords_is (g b : Nat) (l h0 : B8) (mv : Value) (fr up lim : Int) (nw : Bool) (w : World) (st : QSt g b mv w w l h0 fr up lim nw) (hne : b ≠ g) (hl : l.length ≤ 1099511627776) (hT : TabsM w) (h9 : 9 ≤ g) (hb9 : 9 ≤ b) (hw0 : 9 ≤ w.heap.size) :
    Calls Tryz.prog 56 #[.pointer (some ⟨g, 0, none⟩), .pointer (some ⟨b, 0, none⟩)] w fun e w' => e = .returned (.bool (wordsS l h0).isSome) ∧ Tch (fun k => k = g ∨ k = b) w w' ∧ (∃ r, TxAt w' g r) ∧ ∀ r h f u m n, wordsS l h0 = some (r, h, f, u, m, n) → QSt g b mv w w' r h f u m n := by
  have hW := st.word hne [104, 97, 115]
  have hg : g < w.heap.size := st.tx.lt
  have hb : b < w.heap.size := (Array.getElem?_eq_some_iff.1 st.row).1
  have hNW := fun w1 => numberWords_is b w1
  unfold wordsS hasStep
  cases hw : wordP [104, 97, 115] l with
  | none =>
    rw [hw] at hW
    simp only [wordOut] at hW
    clear hw st
    simp only []
    obtain ⟨goal, hgoal⟩ : ∃ o, rest0 l h0 = o := ⟨_, rfl⟩
    rw [hgoal]
    have HG : Hid (restAt 0 l h0 fr up lim = goal) := hid hgoal
    clear hgoal
    go_enter Tryz.func56, Tryz.ntmps56
    go_wp2_with (first
      | (go_at_call 93; refine hW.mono ?_; rintro e w1 ⟨rfl, s1⟩; clear hW)
      | (go_at_call 64; refine (hNW _).mono ?_; rintro e w2 ⟨n, rfl, b2, hn, rn⟩; clear hNW))
    have s2 := s1.below b2
    have hnb : w.heap.size ≤ n := Nat.le_trans s1.tch.size hn
    go_loopw [24] (fun iv wr => ∃ (i : Nat) (l h : B8) (fr up lim : Int), iv = .int .i64 i ∧ i ≤ 3 ∧ l.length ≤ 1099511627776 ∧ QSt g b mv w wr l h fr up lim nw ∧ wr.heap[n]? = some (.cells (nwCells b) 118 (0, 0)) ∧ Hid (restAt i l h fr up lim = goal)) (fun iv _ => (3 - intOf iv).toNat)
    case atStart => exact ⟨0, l, h0, fr, up, lim, rfl, by omega, hl, s2, rn, HG⟩
    case round =>
      clear HG s1 s2 rn b2
      obtain ⟨i, l, h, fr, up, lim, rfl, hi, hl, s, rn, HG⟩ := hrel
      rcases (by omega : i = 0 ∨ i = 1 ∨ i = 2 ∨ i = 3) with rfl | rfl | rfl | rfl
      · have q0 : wr.cell? ⟨n, 0, none⟩ = some (.string ⟨#[102, 114, 111, 109]⟩) := held_cell rn rfl
        have q1 : wr.cell? ⟨n, 1, none⟩ = some (.pointer (some ⟨b, 2, none⟩)) := held_cell rn rfl
        have q2 : wr.cell? ⟨n, 2, none⟩ = some (.int .i64 0) := held_cell rn rfl
        have hbw := (Array.getElem?_eq_some_iff.1 s.row).1
        have hnw := (Array.getElem?_eq_some_iff.1 rn).1
        have c0 : ∀ o, (wr.alloc o).cell? ⟨b, 2, none⟩ = some (.int .i64 fr) := fun o => held_cell ((heap_alloc_old wr o hbw).trans s.row) rfl
        have f0 : ∀ o, (wr.alloc o).frozen? ⟨b, 2, none⟩ = false := fun o => held_frozen (i := 2) ((heap_alloc_old wr o hbw).trans s.row)
        have sb : QSt g b mv w ((wr.setCell ⟨b, 2, none⟩ (.int .i64 0)).alloc (.cells #[.string ⟨#[102, 114, 111, 109]⟩, .pointer (some ⟨b, 2, none⟩), .int .i64 0] 118)) l h 0 up lim nw := (s.set hne 2 (.int .i64 0) (h' := h) (fr' := 0) (up' := up) (lim' := lim) (nw' := nw) rfl).below ((Below.refl _ _).alloc (Nat.le_refl _) _)
        have bx : ((wr.setCell ⟨b, 2, none⟩ (.int .i64 0)).alloc (.cells #[.string ⟨#[102, 114, 111, 109]⟩, .pointer (some ⟨b, 2, none⟩), .int .i64 0] 118)).heap[wr.heap.size]? = some (.cells #[.string ⟨#[102, 114, 111, 109]⟩, .pointer (some ⟨b, 2, none⟩), .int .i64 0] 118 (0, 0)) := by
          have := heap_alloc_new (wr.setCell ⟨b, 2, none⟩ (.int .i64 0)) (.cells #[.string ⟨#[102, 114, 111, 109]⟩, .pointer (some ⟨b, 2, none⟩), .int .i64 0] 118)
          simpa [World.setCell] using this
        have rb : ((wr.setCell ⟨b, 2, none⟩ (.int .i64 0)).alloc (.cells #[.string ⟨#[102, 114, 111, 109]⟩, .pointer (some ⟨b, 2, none⟩), .int .i64 0] 118)).heap[n]? = some (.cells (nwCells b) 118 (0, 0)) :=
          (heap_alloc_old _ _ (by simpa [World.setCell] using hnw)).trans ((Tch.set (· = b) wr ⟨b, 2, none⟩ (.int .i64 0) rfl).row rn (by omega))
        have hTb := sb.tabs hT h9 hb9 hw0
        have hb0 : 9 ≤ ((wr.setCell ⟨b, 2, none⟩ (.int .i64 0)).alloc (.cells #[.string ⟨#[102, 114, 111, 109]⟩, .pointer (some ⟨b, 2, none⟩), .int .i64 0] 118)).heap.size := Nat.le_trans hw0 sb.tch.size
        have sr := sb.rebase
        have tb := sb.tch
        have hWr := sr.word hne [102, 114, 111, 109]
        clear s rn sb
        cases hwp : wordP [102, 114, 111, 109] l with
        | none =>
          have HG2 : Hid (restAt 1 l h 0 up lim = goal) := hid ((rest_yes0 (numStep_skip hwp)).symm.trans HG.out)
          rw [hwp] at hWr
          simp only [wordOut] at hWr
          clear hwp HG
          go_wp2_with (go_at_call 93; refine hWr.mono ?_; rintro e w3 ⟨rfl, s3⟩; clear hWr)
          exact ⟨⟨1, l, h, 0, up, lim, by simp, by omega, hl, ⟨s3.tx, s3.row, tb.trans s3.tch⟩, s3.tch.row rb (by omega), HG2⟩, by simp [intOf]⟩
        | some r =>
          have l1 := wordP_le hwp
          rw [hwp] at hWr
          simp only [wordOut] at hWr
          have hB := fun w3 (s3 : QSt g b mv ((wr.setCell ⟨b, 2, none⟩ (.int .i64 0)).alloc (.cells #[.string ⟨#[102, 114, 111, 109]⟩, .pointer (some ⟨b, 2, none⟩), .int .i64 0] 118)) w3 r h 0 up lim nw) => s3.blanks hne
          cases hbl : blankS r with
          | false =>
            have hgl : none = goal := (rest_no0 (numStep_blank hwp hbl)).symm.trans HG.out
            rw [hbl] at hB
            clear HG hwp hbl
            subst hgl
            go_wp2_with (first
              | (go_at_call 93; refine hWr.mono ?_; rintro e w3 ⟨rfl, s3⟩; clear hWr)
              | (go_at_call 57; refine (hB _ s3).mono ?_; rintro e w4 ⟨rfl, s4⟩; clear hB))
            go_ret
            exact ⟨rfl, tb.trans s4.tch, ⟨_, s4.tx⟩, fun _ _ _ _ _ _ h => by cases h⟩
          | true =>
            have l2 := trimL_le r
            rw [hbl] at hB
            obtain ⟨x, ex⟩ : ∃ x, trimL r = x := ⟨_, rfl⟩
            rw [ex] at l2 hB
            have hN := fun w4 (s4 : QSt g b mv ((wr.setCell ⟨b, 2, none⟩ (.int .i64 0)).alloc (.cells #[.string ⟨#[102, 114, 111, 109]⟩, .pointer (some ⟨b, 2, none⟩), .int .i64 0] 118)) w4 x h 0 up lim nw) => s4.from hne (by omega) hTb h9 hb9 hb0
            have bxc : ∀ w4, QSt g b mv ((wr.setCell ⟨b, 2, none⟩ (.int .i64 0)).alloc (.cells #[.string ⟨#[102, 114, 111, 109]⟩, .pointer (some ⟨b, 2, none⟩), .int .i64 0] 118)) w4 x h 0 up lim nw → w4.cell? ⟨wr.heap.size, 1, none⟩ = some (.pointer (some ⟨b, 2, none⟩)) := fun w4 s4 => held_cell (s4.tch.row bx (by omega)) rfl
            cases hnv : (numV (x.takeWhile dch)).2 with
            | false =>
              have hgl : none = goal := (rest_no0 (numStep_bad hwp (by rw [ex]; exact hnv))).symm.trans HG.out
              rw [hnv] at hN
              clear HG hwp hbl hnv ex
              subst hgl
              go_wp2_with (first
                | (go_at_call 93; refine hWr.mono ?_; rintro e w3 ⟨rfl, s3⟩; clear hWr)
                | (go_at_call 57; refine (hB _ s3).mono ?_; rintro e w4 ⟨rfl, s4⟩; clear hB; have d4 := bxc _ s4)
                | (go_at_call 95; refine (hN _ s4).mono ?_; rintro e w5 ⟨rfl, s5⟩; clear hN))
              go_ret
              exact ⟨rfl, tb.trans s5.tch, ⟨_, s5.tx⟩, fun _ _ _ _ _ _ h => by cases h⟩
            | true =>
              have HG2 : Hid (restAt 1 (x.dropWhile dch) h (numV (x.takeWhile dch)).1 up lim = goal) := hid (by
                have := rest_yes0 (h := h) (fr := fr) (up := up) (lim := lim) (numStep_ok (d := 0) hwp hbl (by rw [ex]; exact hnv))
                rw [ex] at this
                exact this.symm.trans HG.out)
              have l3 := dropWhile_le (p := dch) x
              rw [hnv] at hN
              clear HG hwp hbl hnv ex
              go_wp2_with (first
                | (go_at_call 93; refine hWr.mono ?_; rintro e w3 ⟨rfl, s3⟩; clear hWr)
                | (go_at_call 57; refine (hB _ s3).mono ?_; rintro e w4 ⟨rfl, s4⟩; clear hB; have d4 := bxc _ s4)
                | (go_at_call 95; refine (hN _ s4).mono ?_; rintro e w5 ⟨rfl, s5⟩; clear hN))
              exact ⟨⟨1, x.dropWhile dch, h, _, _, _, by simp, by omega, by omega, ⟨s5.tx, s5.row, tb.trans s5.tch⟩, s5.tch.row rb (by omega), HG2⟩, by simp [intOf]⟩
      · have q0 : wr.cell? ⟨n, 3, none⟩ = some (.string ⟨#[116, 111]⟩) := held_cell rn rfl
        have q1 : wr.cell? ⟨n, 4, none⟩ = some (.pointer (some ⟨b, 3, none⟩)) := held_cell rn rfl
        have q2 : wr.cell? ⟨n, 5, none⟩ = some (.int .i64 1099511627776) := held_cell rn rfl
        have hbw := (Array.getElem?_eq_some_iff.1 s.row).1
        have hnw := (Array.getElem?_eq_some_iff.1 rn).1
        have c0 : ∀ o, (wr.alloc o).cell? ⟨b, 3, none⟩ = some (.int .i64 up) := fun o => held_cell ((heap_alloc_old wr o hbw).trans s.row) rfl
        have f0 : ∀ o, (wr.alloc o).frozen? ⟨b, 3, none⟩ = false := fun o => held_frozen (i := 3) ((heap_alloc_old wr o hbw).trans s.row)
        have sb : QSt g b mv w ((wr.setCell ⟨b, 3, none⟩ (.int .i64 1099511627776)).alloc (.cells #[.string ⟨#[116, 111]⟩, .pointer (some ⟨b, 3, none⟩), .int .i64 1099511627776] 118)) l h fr 1099511627776 lim nw := (s.set hne 3 (.int .i64 1099511627776) (h' := h) (fr' := fr) (up' := 1099511627776) (lim' := lim) (nw' := nw) rfl).below ((Below.refl _ _).alloc (Nat.le_refl _) _)
        have bx : ((wr.setCell ⟨b, 3, none⟩ (.int .i64 1099511627776)).alloc (.cells #[.string ⟨#[116, 111]⟩, .pointer (some ⟨b, 3, none⟩), .int .i64 1099511627776] 118)).heap[wr.heap.size]? = some (.cells #[.string ⟨#[116, 111]⟩, .pointer (some ⟨b, 3, none⟩), .int .i64 1099511627776] 118 (0, 0)) := by
          have := heap_alloc_new (wr.setCell ⟨b, 3, none⟩ (.int .i64 1099511627776)) (.cells #[.string ⟨#[116, 111]⟩, .pointer (some ⟨b, 3, none⟩), .int .i64 1099511627776] 118)
          simpa [World.setCell] using this
        have rb : ((wr.setCell ⟨b, 3, none⟩ (.int .i64 1099511627776)).alloc (.cells #[.string ⟨#[116, 111]⟩, .pointer (some ⟨b, 3, none⟩), .int .i64 1099511627776] 118)).heap[n]? = some (.cells (nwCells b) 118 (0, 0)) :=
          (heap_alloc_old _ _ (by simpa [World.setCell] using hnw)).trans ((Tch.set (· = b) wr ⟨b, 3, none⟩ (.int .i64 1099511627776) rfl).row rn (by omega))
        have hTb := sb.tabs hT h9 hb9 hw0
        have hb0 : 9 ≤ ((wr.setCell ⟨b, 3, none⟩ (.int .i64 1099511627776)).alloc (.cells #[.string ⟨#[116, 111]⟩, .pointer (some ⟨b, 3, none⟩), .int .i64 1099511627776] 118)).heap.size := Nat.le_trans hw0 sb.tch.size
        have sr := sb.rebase
        have tb := sb.tch
        have hWr := sr.word hne [116, 111]
        clear s rn sb
        cases hwp : wordP [116, 111] l with
        | none =>
          have HG2 : Hid (restAt 2 l h fr 1099511627776 lim = goal) := hid ((rest_yes1 (numStep_skip hwp)).symm.trans HG.out)
          rw [hwp] at hWr
          simp only [wordOut] at hWr
          clear hwp HG
          go_wp2_with (go_at_call 93; refine hWr.mono ?_; rintro e w3 ⟨rfl, s3⟩; clear hWr)
          exact ⟨⟨2, l, h, fr, 1099511627776, lim, by simp, by omega, hl, ⟨s3.tx, s3.row, tb.trans s3.tch⟩, s3.tch.row rb (by omega), HG2⟩, by simp [intOf]⟩
        | some r =>
          have l1 := wordP_le hwp
          rw [hwp] at hWr
          simp only [wordOut] at hWr
          have hB := fun w3 (s3 : QSt g b mv ((wr.setCell ⟨b, 3, none⟩ (.int .i64 1099511627776)).alloc (.cells #[.string ⟨#[116, 111]⟩, .pointer (some ⟨b, 3, none⟩), .int .i64 1099511627776] 118)) w3 r h fr 1099511627776 lim nw) => s3.blanks hne
          cases hbl : blankS r with
          | false =>
            have hgl : none = goal := (rest_no1 (numStep_blank hwp hbl)).symm.trans HG.out
            rw [hbl] at hB
            clear HG hwp hbl
            subst hgl
            go_wp2_with (first
              | (go_at_call 93; refine hWr.mono ?_; rintro e w3 ⟨rfl, s3⟩; clear hWr)
              | (go_at_call 57; refine (hB _ s3).mono ?_; rintro e w4 ⟨rfl, s4⟩; clear hB))
            go_ret
            exact ⟨rfl, tb.trans s4.tch, ⟨_, s4.tx⟩, fun _ _ _ _ _ _ h => by cases h⟩
          | true =>
            have l2 := trimL_le r
            rw [hbl] at hB
            obtain ⟨x, ex⟩ : ∃ x, trimL r = x := ⟨_, rfl⟩
            rw [ex] at l2 hB
            have hN := fun w4 (s4 : QSt g b mv ((wr.setCell ⟨b, 3, none⟩ (.int .i64 1099511627776)).alloc (.cells #[.string ⟨#[116, 111]⟩, .pointer (some ⟨b, 3, none⟩), .int .i64 1099511627776] 118)) w4 x h fr 1099511627776 lim nw) => s4.upto hne (by omega) hTb h9 hb9 hb0
            have bxc : ∀ w4, QSt g b mv ((wr.setCell ⟨b, 3, none⟩ (.int .i64 1099511627776)).alloc (.cells #[.string ⟨#[116, 111]⟩, .pointer (some ⟨b, 3, none⟩), .int .i64 1099511627776] 118)) w4 x h fr 1099511627776 lim nw → w4.cell? ⟨wr.heap.size, 1, none⟩ = some (.pointer (some ⟨b, 3, none⟩)) := fun w4 s4 => held_cell (s4.tch.row bx (by omega)) rfl
            cases hnv : (numV (x.takeWhile dch)).2 with
            | false =>
              have hgl : none = goal := (rest_no1 (numStep_bad hwp (by rw [ex]; exact hnv))).symm.trans HG.out
              rw [hnv] at hN
              clear HG hwp hbl hnv ex
              subst hgl
              go_wp2_with (first
                | (go_at_call 93; refine hWr.mono ?_; rintro e w3 ⟨rfl, s3⟩; clear hWr)
                | (go_at_call 57; refine (hB _ s3).mono ?_; rintro e w4 ⟨rfl, s4⟩; clear hB; have d4 := bxc _ s4)
                | (go_at_call 95; refine (hN _ s4).mono ?_; rintro e w5 ⟨rfl, s5⟩; clear hN))
              go_ret
              exact ⟨rfl, tb.trans s5.tch, ⟨_, s5.tx⟩, fun _ _ _ _ _ _ h => by cases h⟩
            | true =>
              have HG2 : Hid (restAt 2 (x.dropWhile dch) h fr (numV (x.takeWhile dch)).1 lim = goal) := hid (by
                have := rest_yes1 (h := h) (fr := fr) (up := up) (lim := lim) (numStep_ok (d := 1099511627776) hwp hbl (by rw [ex]; exact hnv))
                rw [ex] at this
                exact this.symm.trans HG.out)
              have l3 := dropWhile_le (p := dch) x
              rw [hnv] at hN
              clear HG hwp hbl hnv ex
              go_wp2_with (first
                | (go_at_call 93; refine hWr.mono ?_; rintro e w3 ⟨rfl, s3⟩; clear hWr)
                | (go_at_call 57; refine (hB _ s3).mono ?_; rintro e w4 ⟨rfl, s4⟩; clear hB; have d4 := bxc _ s4)
                | (go_at_call 95; refine (hN _ s4).mono ?_; rintro e w5 ⟨rfl, s5⟩; clear hN))
              exact ⟨⟨2, x.dropWhile dch, h, _, _, _, by simp, by omega, by omega, ⟨s5.tx, s5.row, tb.trans s5.tch⟩, s5.tch.row rb (by omega), HG2⟩, by simp [intOf]⟩
      · have q0 : wr.cell? ⟨n, 6, none⟩ = some (.string ⟨#[108, 105, 109, 105, 116]⟩) := held_cell rn rfl
        have q1 : wr.cell? ⟨n, 7, none⟩ = some (.pointer (some ⟨b, 4, none⟩)) := held_cell rn rfl
        have q2 : wr.cell? ⟨n, 8, none⟩ = some (.int .i64 0) := held_cell rn rfl
        have hbw := (Array.getElem?_eq_some_iff.1 s.row).1
        have hnw := (Array.getElem?_eq_some_iff.1 rn).1
        have c0 : ∀ o, (wr.alloc o).cell? ⟨b, 4, none⟩ = some (.int .i64 lim) := fun o => held_cell ((heap_alloc_old wr o hbw).trans s.row) rfl
        have f0 : ∀ o, (wr.alloc o).frozen? ⟨b, 4, none⟩ = false := fun o => held_frozen (i := 4) ((heap_alloc_old wr o hbw).trans s.row)
        have sb : QSt g b mv w ((wr.setCell ⟨b, 4, none⟩ (.int .i64 0)).alloc (.cells #[.string ⟨#[108, 105, 109, 105, 116]⟩, .pointer (some ⟨b, 4, none⟩), .int .i64 0] 118)) l h fr up 0 nw := (s.set hne 4 (.int .i64 0) (h' := h) (fr' := fr) (up' := up) (lim' := 0) (nw' := nw) rfl).below ((Below.refl _ _).alloc (Nat.le_refl _) _)
        have bx : ((wr.setCell ⟨b, 4, none⟩ (.int .i64 0)).alloc (.cells #[.string ⟨#[108, 105, 109, 105, 116]⟩, .pointer (some ⟨b, 4, none⟩), .int .i64 0] 118)).heap[wr.heap.size]? = some (.cells #[.string ⟨#[108, 105, 109, 105, 116]⟩, .pointer (some ⟨b, 4, none⟩), .int .i64 0] 118 (0, 0)) := by
          have := heap_alloc_new (wr.setCell ⟨b, 4, none⟩ (.int .i64 0)) (.cells #[.string ⟨#[108, 105, 109, 105, 116]⟩, .pointer (some ⟨b, 4, none⟩), .int .i64 0] 118)
          simpa [World.setCell] using this
        have rb : ((wr.setCell ⟨b, 4, none⟩ (.int .i64 0)).alloc (.cells #[.string ⟨#[108, 105, 109, 105, 116]⟩, .pointer (some ⟨b, 4, none⟩), .int .i64 0] 118)).heap[n]? = some (.cells (nwCells b) 118 (0, 0)) :=
          (heap_alloc_old _ _ (by simpa [World.setCell] using hnw)).trans ((Tch.set (· = b) wr ⟨b, 4, none⟩ (.int .i64 0) rfl).row rn (by omega))
        have hTb := sb.tabs hT h9 hb9 hw0
        have hb0 : 9 ≤ ((wr.setCell ⟨b, 4, none⟩ (.int .i64 0)).alloc (.cells #[.string ⟨#[108, 105, 109, 105, 116]⟩, .pointer (some ⟨b, 4, none⟩), .int .i64 0] 118)).heap.size := Nat.le_trans hw0 sb.tch.size
        have sr := sb.rebase
        have tb := sb.tch
        have hWr := sr.word hne [108, 105, 109, 105, 116]
        clear s rn sb
        cases hwp : wordP [108, 105, 109, 105, 116] l with
        | none =>
          have HG2 : Hid (restAt 3 l h fr up 0 = goal) := hid ((rest_yes2 (numStep_skip hwp)).symm.trans HG.out)
          rw [hwp] at hWr
          simp only [wordOut] at hWr
          clear hwp HG
          go_wp2_with (go_at_call 93; refine hWr.mono ?_; rintro e w3 ⟨rfl, s3⟩; clear hWr)
          exact ⟨⟨3, l, h, fr, up, 0, by simp, by omega, hl, ⟨s3.tx, s3.row, tb.trans s3.tch⟩, s3.tch.row rb (by omega), HG2⟩, by simp [intOf]⟩
        | some r =>
          have l1 := wordP_le hwp
          rw [hwp] at hWr
          simp only [wordOut] at hWr
          have hB := fun w3 (s3 : QSt g b mv ((wr.setCell ⟨b, 4, none⟩ (.int .i64 0)).alloc (.cells #[.string ⟨#[108, 105, 109, 105, 116]⟩, .pointer (some ⟨b, 4, none⟩), .int .i64 0] 118)) w3 r h fr up 0 nw) => s3.blanks hne
          cases hbl : blankS r with
          | false =>
            have hgl : none = goal := (rest_no2 (numStep_blank hwp hbl)).symm.trans HG.out
            rw [hbl] at hB
            clear HG hwp hbl
            subst hgl
            go_wp2_with (first
              | (go_at_call 93; refine hWr.mono ?_; rintro e w3 ⟨rfl, s3⟩; clear hWr)
              | (go_at_call 57; refine (hB _ s3).mono ?_; rintro e w4 ⟨rfl, s4⟩; clear hB))
            go_ret
            exact ⟨rfl, tb.trans s4.tch, ⟨_, s4.tx⟩, fun _ _ _ _ _ _ h => by cases h⟩
          | true =>
            have l2 := trimL_le r
            rw [hbl] at hB
            obtain ⟨x, ex⟩ : ∃ x, trimL r = x := ⟨_, rfl⟩
            rw [ex] at l2 hB
            have hN := fun w4 (s4 : QSt g b mv ((wr.setCell ⟨b, 4, none⟩ (.int .i64 0)).alloc (.cells #[.string ⟨#[108, 105, 109, 105, 116]⟩, .pointer (some ⟨b, 4, none⟩), .int .i64 0] 118)) w4 x h fr up 0 nw) => s4.limit hne (by omega) hTb h9 hb9 hb0
            have bxc : ∀ w4, QSt g b mv ((wr.setCell ⟨b, 4, none⟩ (.int .i64 0)).alloc (.cells #[.string ⟨#[108, 105, 109, 105, 116]⟩, .pointer (some ⟨b, 4, none⟩), .int .i64 0] 118)) w4 x h fr up 0 nw → w4.cell? ⟨wr.heap.size, 1, none⟩ = some (.pointer (some ⟨b, 4, none⟩)) := fun w4 s4 => held_cell (s4.tch.row bx (by omega)) rfl
            cases hnv : (numV (x.takeWhile dch)).2 with
            | false =>
              have hgl : none = goal := (rest_no2 (numStep_bad hwp (by rw [ex]; exact hnv))).symm.trans HG.out
              rw [hnv] at hN
              clear HG hwp hbl hnv ex
              subst hgl
              go_wp2_with (first
                | (go_at_call 93; refine hWr.mono ?_; rintro e w3 ⟨rfl, s3⟩; clear hWr)
                | (go_at_call 57; refine (hB _ s3).mono ?_; rintro e w4 ⟨rfl, s4⟩; clear hB; have d4 := bxc _ s4)
                | (go_at_call 95; refine (hN _ s4).mono ?_; rintro e w5 ⟨rfl, s5⟩; clear hN))
              go_ret
              exact ⟨rfl, tb.trans s5.tch, ⟨_, s5.tx⟩, fun _ _ _ _ _ _ h => by cases h⟩
            | true =>
              have HG2 : Hid (restAt 3 (x.dropWhile dch) h fr up (numV (x.takeWhile dch)).1 = goal) := hid (by
                have := rest_yes2 (h := h) (fr := fr) (up := up) (lim := lim) (numStep_ok (d := 0) hwp hbl (by rw [ex]; exact hnv))
                rw [ex] at this
                exact this.symm.trans HG.out)
              have l3 := dropWhile_le (p := dch) x
              rw [hnv] at hN
              clear HG hwp hbl hnv ex
              go_wp2_with (first
                | (go_at_call 93; refine hWr.mono ?_; rintro e w3 ⟨rfl, s3⟩; clear hWr)
                | (go_at_call 57; refine (hB _ s3).mono ?_; rintro e w4 ⟨rfl, s4⟩; clear hB; have d4 := bxc _ s4)
                | (go_at_call 95; refine (hN _ s4).mono ?_; rintro e w5 ⟨rfl, s5⟩; clear hN))
              exact ⟨⟨3, x.dropWhile dch, h, _, _, _, by simp, by omega, by omega, ⟨s5.tx, s5.row, tb.trans s5.tch⟩, s5.tch.row rb (by omega), HG2⟩, by simp [intOf]⟩
      · have hWn := s.word hne [110, 101, 119, 101, 115, 116]
        have hgl : rest3 l h fr up lim = goal := HG.out
        unfold rest3 at hgl
        obtain ⟨o, ho⟩ : ∃ o, wordOut (wordP [110, 101, 119, 101, 115, 116] l) l = o := ⟨_, rfl⟩
        rw [ho] at hWn hgl
        clear ho HG rn
        subst hgl
        have hcf : ∀ w3, QSt g b mv w w3 o.2 h fr up lim nw → w3.cell? ⟨b, 5, none⟩ = some (.bool nw) ∧ w3.frozen? ⟨b, 5, none⟩ = false := fun w3 s3 => ⟨held_cell s3.row rfl, held_frozen s3.row⟩
        go_wp2_with (go_at_call 93; refine hWn.mono ?_; rintro e w3 ⟨rfl, s3⟩; obtain ⟨c3, f3⟩ := hcf _ s3; clear hWn)
        go_ret
        have s4 := s3.set hne 5 (.bool o.1) (h' := h) (fr' := fr) (up' := up) (lim' := lim) (nw' := o.1) rfl
        refine ⟨rfl, s4.tch, ⟨_, s4.tx⟩, fun r h2 f u m n he => ?_⟩
        injection he with he
        simp only [Prod.mk.injEq] at he
        obtain ⟨rfl, rfl, rfl, rfl, rfl, rfl⟩ := he
        exact s4
  | some r =>
    have l1 := wordP_le hw
    rw [hw] at hW
    simp only [wordOut] at hW
    clear hw
    simp only []
    have hB := fun w3 (s3 : QSt g b mv w w3 r h0 fr up lim nw) => s3.blanks hne
    have l2 := trimL_le r
    obtain ⟨x, ex⟩ : ∃ x, trimL r = x := ⟨_, rfl⟩
    rw [ex] at l2 hB ⊢
    have hQ := fun w4 (s4 : QSt g b mv w w4 x h0 fr up lim nw) => s4.quoted hne (by omega) hT h9 hb9 hw0
    have lq1 := quotedOut_le x
    clear ex st
    obtain ⟨hq, ehq⟩ : ∃ y, (quotedOut x).1 = y := ⟨_, rfl⟩
    obtain ⟨lq, elq⟩ : ∃ y, (quotedOut x).2.1 = y := ⟨_, rfl⟩
    obtain ⟨bq, ebq⟩ : ∃ y, (quotedOut x).2.2 = y := ⟨_, rfl⟩
    rw [ehq, elq, ebq] at hQ ⊢
    rw [elq] at lq1
    clear ehq elq ebq
    have hlq : lq.length ≤ 1099511627776 := by omega
    cases hbl : blankS r with
    | false =>
      rw [hbl] at hB
      have e0 : (if false = true ∧ bq = true then some (lq, hq) else (none : Option (B8 × B8))) = none := by rw [if_neg (by simp)]
      rw [e0]
      clear e0 hbl hQ
      go_enter Tryz.func56, Tryz.ntmps56
      go_wp2_with (first
        | (go_at_call 93; refine hW.mono ?_; rintro e w3 ⟨rfl, s3⟩; clear hW)
        | (go_at_call 57; refine (hB _ s3).mono ?_; rintro e w4 ⟨rfl, s4⟩; clear hB))
      go_ret
      exact ⟨rfl, s4.tch, ⟨_, s4.tx⟩, fun _ _ _ _ _ _ h => by cases h⟩
    | true =>
      rw [hbl] at hB
      cases bq with
      | false =>
        have e0 : (if true = true ∧ false = true then some (lq, hq) else (none : Option (B8 × B8))) = none := by rw [if_neg (by simp)]
        rw [e0]
        clear e0 hbl
        go_enter Tryz.func56, Tryz.ntmps56
        go_wp2_with (first
          | (go_at_call 93; refine hW.mono ?_; rintro e w3 ⟨rfl, s3⟩; clear hW)
          | (go_at_call 57; refine (hB _ s3).mono ?_; rintro e w4 ⟨rfl, s4⟩; clear hB)
          | (go_at_call 94; refine (hQ _ s4).mono ?_; rintro e w5 ⟨rfl, s5⟩; clear hQ))
        go_ret
        exact ⟨rfl, s5.tch, ⟨_, s5.tx⟩, fun _ _ _ _ _ _ h => by cases h⟩
      | true =>
        have e0 : (if true = true ∧ true = true then some (lq, hq) else (none : Option (B8 × B8))) = some (lq, hq) := by rw [if_pos (by simp)]
        rw [e0]
        simp only []
        clear e0 hbl
        obtain ⟨goal, hgoal⟩ : ∃ o, rest0 lq hq = o := ⟨_, rfl⟩
        rw [hgoal]
        have HG : Hid (restAt 0 lq hq fr up lim = goal) := hid hgoal
        clear hgoal
        go_enter Tryz.func56, Tryz.ntmps56
        go_wp2_with (first
          | (go_at_call 93; refine hW.mono ?_; rintro e w3 ⟨rfl, s3⟩; clear hW)
          | (go_at_call 57; refine (hB _ s3).mono ?_; rintro e w4 ⟨rfl, s4⟩; clear hB)
          | (go_at_call 94; refine (hQ _ s4).mono ?_; rintro e w1 ⟨rfl, s1⟩; clear hQ s3 s4)
          | (go_at_call 64; refine (hNW _).mono ?_; rintro e w2 ⟨n, rfl, b2, hn, rn⟩; clear hNW))
        clear l1 l2 lq1 hl
        have s2 := s1.below b2
        have hnb : w.heap.size ≤ n := Nat.le_trans s1.tch.size hn
        go_loopw [24] (fun iv wr => ∃ (i : Nat) (l h : B8) (fr up lim : Int), iv = .int .i64 i ∧ i ≤ 3 ∧ l.length ≤ 1099511627776 ∧ QSt g b mv w wr l h fr up lim nw ∧ wr.heap[n]? = some (.cells (nwCells b) 118 (0, 0)) ∧ Hid (restAt i l h fr up lim = goal)) (fun iv _ => (3 - intOf iv).toNat)
        case atStart => exact ⟨0, lq, hq, fr, up, lim, rfl, by omega, hlq, s2, rn, HG⟩
        case round =>
          clear HG s1 s2 rn b2
          obtain ⟨i, l, h, fr, up, lim, rfl, hi, hl, s, rn, HG⟩ := hrel
          rcases (by omega : i = 0 ∨ i = 1 ∨ i = 2 ∨ i = 3) with rfl | rfl | rfl | rfl
          · have q0 : wr.cell? ⟨n, 0, none⟩ = some (.string ⟨#[102, 114, 111, 109]⟩) := held_cell rn rfl
            have q1 : wr.cell? ⟨n, 1, none⟩ = some (.pointer (some ⟨b, 2, none⟩)) := held_cell rn rfl
            have q2 : wr.cell? ⟨n, 2, none⟩ = some (.int .i64 0) := held_cell rn rfl
            have hbw := (Array.getElem?_eq_some_iff.1 s.row).1
            have hnw := (Array.getElem?_eq_some_iff.1 rn).1
            have c0 : ∀ o, (wr.alloc o).cell? ⟨b, 2, none⟩ = some (.int .i64 fr) := fun o => held_cell ((heap_alloc_old wr o hbw).trans s.row) rfl
            have f0 : ∀ o, (wr.alloc o).frozen? ⟨b, 2, none⟩ = false := fun o => held_frozen (i := 2) ((heap_alloc_old wr o hbw).trans s.row)
            have sb : QSt g b mv w ((wr.setCell ⟨b, 2, none⟩ (.int .i64 0)).alloc (.cells #[.string ⟨#[102, 114, 111, 109]⟩, .pointer (some ⟨b, 2, none⟩), .int .i64 0] 118)) l h 0 up lim nw := (s.set hne 2 (.int .i64 0) (h' := h) (fr' := 0) (up' := up) (lim' := lim) (nw' := nw) rfl).below ((Below.refl _ _).alloc (Nat.le_refl _) _)
            have bx : ((wr.setCell ⟨b, 2, none⟩ (.int .i64 0)).alloc (.cells #[.string ⟨#[102, 114, 111, 109]⟩, .pointer (some ⟨b, 2, none⟩), .int .i64 0] 118)).heap[wr.heap.size]? = some (.cells #[.string ⟨#[102, 114, 111, 109]⟩, .pointer (some ⟨b, 2, none⟩), .int .i64 0] 118 (0, 0)) := by
              have := heap_alloc_new (wr.setCell ⟨b, 2, none⟩ (.int .i64 0)) (.cells #[.string ⟨#[102, 114, 111, 109]⟩, .pointer (some ⟨b, 2, none⟩), .int .i64 0] 118)
              simpa [World.setCell] using this
            have rb : ((wr.setCell ⟨b, 2, none⟩ (.int .i64 0)).alloc (.cells #[.string ⟨#[102, 114, 111, 109]⟩, .pointer (some ⟨b, 2, none⟩), .int .i64 0] 118)).heap[n]? = some (.cells (nwCells b) 118 (0, 0)) :=
              (heap_alloc_old _ _ (by simpa [World.setCell] using hnw)).trans ((Tch.set (· = b) wr ⟨b, 2, none⟩ (.int .i64 0) rfl).row rn (by omega))
            have hTb := sb.tabs hT h9 hb9 hw0
            have hb0 : 9 ≤ ((wr.setCell ⟨b, 2, none⟩ (.int .i64 0)).alloc (.cells #[.string ⟨#[102, 114, 111, 109]⟩, .pointer (some ⟨b, 2, none⟩), .int .i64 0] 118)).heap.size := Nat.le_trans hw0 sb.tch.size
            have sr := sb.rebase
            have tb := sb.tch
            have hWr := sr.word hne [102, 114, 111, 109]
            clear s rn sb
            cases hwp : wordP [102, 114, 111, 109] l with
            | none =>
              have HG2 : Hid (restAt 1 l h 0 up lim = goal) := hid ((rest_yes0 (numStep_skip hwp)).symm.trans HG.out)
              rw [hwp] at hWr
              simp only [wordOut] at hWr
              clear hwp HG
              go_wp2_with (go_at_call 93; refine hWr.mono ?_; rintro e w3 ⟨rfl, s3⟩; clear hWr)
              exact ⟨⟨1, l, h, 0, up, lim, by simp, by omega, hl, ⟨s3.tx, s3.row, tb.trans s3.tch⟩, s3.tch.row rb (by omega), HG2⟩, by simp [intOf]⟩
            | some r =>
              have l1 := wordP_le hwp
              rw [hwp] at hWr
              simp only [wordOut] at hWr
              have hB := fun w3 (s3 : QSt g b mv ((wr.setCell ⟨b, 2, none⟩ (.int .i64 0)).alloc (.cells #[.string ⟨#[102, 114, 111, 109]⟩, .pointer (some ⟨b, 2, none⟩), .int .i64 0] 118)) w3 r h 0 up lim nw) => s3.blanks hne
              cases hbl : blankS r with
              | false =>
                have hgl : none = goal := (rest_no0 (numStep_blank hwp hbl)).symm.trans HG.out
                rw [hbl] at hB
                clear HG hwp hbl
                subst hgl
                go_wp2_with (first
                  | (go_at_call 93; refine hWr.mono ?_; rintro e w3 ⟨rfl, s3⟩; clear hWr)
                  | (go_at_call 57; refine (hB _ s3).mono ?_; rintro e w4 ⟨rfl, s4⟩; clear hB))
                go_ret
                exact ⟨rfl, tb.trans s4.tch, ⟨_, s4.tx⟩, fun _ _ _ _ _ _ h => by cases h⟩
              | true =>
                have l2 := trimL_le r
                rw [hbl] at hB
                obtain ⟨x, ex⟩ : ∃ x, trimL r = x := ⟨_, rfl⟩
                rw [ex] at l2 hB
                have hN := fun w4 (s4 : QSt g b mv ((wr.setCell ⟨b, 2, none⟩ (.int .i64 0)).alloc (.cells #[.string ⟨#[102, 114, 111, 109]⟩, .pointer (some ⟨b, 2, none⟩), .int .i64 0] 118)) w4 x h 0 up lim nw) => s4.from hne (by omega) hTb h9 hb9 hb0
                have bxc : ∀ w4, QSt g b mv ((wr.setCell ⟨b, 2, none⟩ (.int .i64 0)).alloc (.cells #[.string ⟨#[102, 114, 111, 109]⟩, .pointer (some ⟨b, 2, none⟩), .int .i64 0] 118)) w4 x h 0 up lim nw → w4.cell? ⟨wr.heap.size, 1, none⟩ = some (.pointer (some ⟨b, 2, none⟩)) := fun w4 s4 => held_cell (s4.tch.row bx (by omega)) rfl
                cases hnv : (numV (x.takeWhile dch)).2 with
                | false =>
                  have hgl : none = goal := (rest_no0 (numStep_bad hwp (by rw [ex]; exact hnv))).symm.trans HG.out
                  rw [hnv] at hN
                  clear HG hwp hbl hnv ex
                  subst hgl
                  go_wp2_with (first
                    | (go_at_call 93; refine hWr.mono ?_; rintro e w3 ⟨rfl, s3⟩; clear hWr)
                    | (go_at_call 57; refine (hB _ s3).mono ?_; rintro e w4 ⟨rfl, s4⟩; clear hB; have d4 := bxc _ s4)
                    | (go_at_call 95; refine (hN _ s4).mono ?_; rintro e w5 ⟨rfl, s5⟩; clear hN))
                  go_ret
                  exact ⟨rfl, tb.trans s5.tch, ⟨_, s5.tx⟩, fun _ _ _ _ _ _ h => by cases h⟩
                | true =>
                  have HG2 : Hid (restAt 1 (x.dropWhile dch) h (numV (x.takeWhile dch)).1 up lim = goal) := hid (by
                    have := rest_yes0 (h := h) (fr := fr) (up := up) (lim := lim) (numStep_ok (d := 0) hwp hbl (by rw [ex]; exact hnv))
                    rw [ex] at this
                    exact this.symm.trans HG.out)
                  have l3 := dropWhile_le (p := dch) x
                  rw [hnv] at hN
                  clear HG hwp hbl hnv ex
                  go_wp2_with (first
                    | (go_at_call 93; refine hWr.mono ?_; rintro e w3 ⟨rfl, s3⟩; clear hWr)
                    | (go_at_call 57; refine (hB _ s3).mono ?_; rintro e w4 ⟨rfl, s4⟩; clear hB; have d4 := bxc _ s4)
                    | (go_at_call 95; refine (hN _ s4).mono ?_; rintro e w5 ⟨rfl, s5⟩; clear hN))
                  exact ⟨⟨1, x.dropWhile dch, h, _, _, _, by simp, by omega, by omega, ⟨s5.tx, s5.row, tb.trans s5.tch⟩, s5.tch.row rb (by omega), HG2⟩, by simp [intOf]⟩
          · have q0 : wr.cell? ⟨n, 3, none⟩ = some (.string ⟨#[116, 111]⟩) := held_cell rn rfl
            have q1 : wr.cell? ⟨n, 4, none⟩ = some (.pointer (some ⟨b, 3, none⟩)) := held_cell rn rfl
            have q2 : wr.cell? ⟨n, 5, none⟩ = some (.int .i64 1099511627776) := held_cell rn rfl
            have hbw := (Array.getElem?_eq_some_iff.1 s.row).1
            have hnw := (Array.getElem?_eq_some_iff.1 rn).1
            have c0 : ∀ o, (wr.alloc o).cell? ⟨b, 3, none⟩ = some (.int .i64 up) := fun o => held_cell ((heap_alloc_old wr o hbw).trans s.row) rfl
            have f0 : ∀ o, (wr.alloc o).frozen? ⟨b, 3, none⟩ = false := fun o => held_frozen (i := 3) ((heap_alloc_old wr o hbw).trans s.row)
            have sb : QSt g b mv w ((wr.setCell ⟨b, 3, none⟩ (.int .i64 1099511627776)).alloc (.cells #[.string ⟨#[116, 111]⟩, .pointer (some ⟨b, 3, none⟩), .int .i64 1099511627776] 118)) l h fr 1099511627776 lim nw := (s.set hne 3 (.int .i64 1099511627776) (h' := h) (fr' := fr) (up' := 1099511627776) (lim' := lim) (nw' := nw) rfl).below ((Below.refl _ _).alloc (Nat.le_refl _) _)
            have bx : ((wr.setCell ⟨b, 3, none⟩ (.int .i64 1099511627776)).alloc (.cells #[.string ⟨#[116, 111]⟩, .pointer (some ⟨b, 3, none⟩), .int .i64 1099511627776] 118)).heap[wr.heap.size]? = some (.cells #[.string ⟨#[116, 111]⟩, .pointer (some ⟨b, 3, none⟩), .int .i64 1099511627776] 118 (0, 0)) := by
              have := heap_alloc_new (wr.setCell ⟨b, 3, none⟩ (.int .i64 1099511627776)) (.cells #[.string ⟨#[116, 111]⟩, .pointer (some ⟨b, 3, none⟩), .int .i64 1099511627776] 118)
              simpa [World.setCell] using this
            have rb : ((wr.setCell ⟨b, 3, none⟩ (.int .i64 1099511627776)).alloc (.cells #[.string ⟨#[116, 111]⟩, .pointer (some ⟨b, 3, none⟩), .int .i64 1099511627776] 118)).heap[n]? = some (.cells (nwCells b) 118 (0, 0)) :=
              (heap_alloc_old _ _ (by simpa [World.setCell] using hnw)).trans ((Tch.set (· = b) wr ⟨b, 3, none⟩ (.int .i64 1099511627776) rfl).row rn (by omega))
            have hTb := sb.tabs hT h9 hb9 hw0
            have hb0 : 9 ≤ ((wr.setCell ⟨b, 3, none⟩ (.int .i64 1099511627776)).alloc (.cells #[.string ⟨#[116, 111]⟩, .pointer (some ⟨b, 3, none⟩), .int .i64 1099511627776] 118)).heap.size := Nat.le_trans hw0 sb.tch.size
            have sr := sb.rebase
            have tb := sb.tch
            have hWr := sr.word hne [116, 111]
            clear s rn sb
            cases hwp : wordP [116, 111] l with
            | none =>
              have HG2 : Hid (restAt 2 l h fr 1099511627776 lim = goal) := hid ((rest_yes1 (numStep_skip hwp)).symm.trans HG.out)
              rw [hwp] at hWr
              simp only [wordOut] at hWr
              clear hwp HG
              go_wp2_with (go_at_call 93; refine hWr.mono ?_; rintro e w3 ⟨rfl, s3⟩; clear hWr)
              exact ⟨⟨2, l, h, fr, 1099511627776, lim, by simp, by omega, hl, ⟨s3.tx, s3.row, tb.trans s3.tch⟩, s3.tch.row rb (by omega), HG2⟩, by simp [intOf]⟩
            | some r =>
              have l1 := wordP_le hwp
              rw [hwp] at hWr
              simp only [wordOut] at hWr
              have hB := fun w3 (s3 : QSt g b mv ((wr.setCell ⟨b, 3, none⟩ (.int .i64 1099511627776)).alloc (.cells #[.string ⟨#[116, 111]⟩, .pointer (some ⟨b, 3, none⟩), .int .i64 1099511627776] 118)) w3 r h fr 1099511627776 lim nw) => s3.blanks hne
              cases hbl : blankS r with
              | false =>
                have hgl : none = goal := (rest_no1 (numStep_blank hwp hbl)).symm.trans HG.out
                rw [hbl] at hB
                clear HG hwp hbl
                subst hgl
                go_wp2_with (first
                  | (go_at_call 93; refine hWr.mono ?_; rintro e w3 ⟨rfl, s3⟩; clear hWr)
                  | (go_at_call 57; refine (hB _ s3).mono ?_; rintro e w4 ⟨rfl, s4⟩; clear hB))
                go_ret
                exact ⟨rfl, tb.trans s4.tch, ⟨_, s4.tx⟩, fun _ _ _ _ _ _ h => by cases h⟩
              | true =>
                have l2 := trimL_le r
                rw [hbl] at hB
                obtain ⟨x, ex⟩ : ∃ x, trimL r = x := ⟨_, rfl⟩
                rw [ex] at l2 hB
                have hN := fun w4 (s4 : QSt g b mv ((wr.setCell ⟨b, 3, none⟩ (.int .i64 1099511627776)).alloc (.cells #[.string ⟨#[116, 111]⟩, .pointer (some ⟨b, 3, none⟩), .int .i64 1099511627776] 118)) w4 x h fr 1099511627776 lim nw) => s4.upto hne (by omega) hTb h9 hb9 hb0
                have bxc : ∀ w4, QSt g b mv ((wr.setCell ⟨b, 3, none⟩ (.int .i64 1099511627776)).alloc (.cells #[.string ⟨#[116, 111]⟩, .pointer (some ⟨b, 3, none⟩), .int .i64 1099511627776] 118)) w4 x h fr 1099511627776 lim nw → w4.cell? ⟨wr.heap.size, 1, none⟩ = some (.pointer (some ⟨b, 3, none⟩)) := fun w4 s4 => held_cell (s4.tch.row bx (by omega)) rfl
                cases hnv : (numV (x.takeWhile dch)).2 with
                | false =>
                  have hgl : none = goal := (rest_no1 (numStep_bad hwp (by rw [ex]; exact hnv))).symm.trans HG.out
                  rw [hnv] at hN
                  clear HG hwp hbl hnv ex
                  subst hgl
                  go_wp2_with (first
                    | (go_at_call 93; refine hWr.mono ?_; rintro e w3 ⟨rfl, s3⟩; clear hWr)
                    | (go_at_call 57; refine (hB _ s3).mono ?_; rintro e w4 ⟨rfl, s4⟩; clear hB; have d4 := bxc _ s4)
                    | (go_at_call 95; refine (hN _ s4).mono ?_; rintro e w5 ⟨rfl, s5⟩; clear hN))
                  go_ret
                  exact ⟨rfl, tb.trans s5.tch, ⟨_, s5.tx⟩, fun _ _ _ _ _ _ h => by cases h⟩
                | true =>
                  have HG2 : Hid (restAt 2 (x.dropWhile dch) h fr (numV (x.takeWhile dch)).1 lim = goal) := hid (by
                    have := rest_yes1 (h := h) (fr := fr) (up := up) (lim := lim) (numStep_ok (d := 1099511627776) hwp hbl (by rw [ex]; exact hnv))
                    rw [ex] at this
                    exact this.symm.trans HG.out)
                  have l3 := dropWhile_le (p := dch) x
                  rw [hnv] at hN
                  clear HG hwp hbl hnv ex
                  go_wp2_with (first
                    | (go_at_call 93; refine hWr.mono ?_; rintro e w3 ⟨rfl, s3⟩; clear hWr)
                    | (go_at_call 57; refine (hB _ s3).mono ?_; rintro e w4 ⟨rfl, s4⟩; clear hB; have d4 := bxc _ s4)
                    | (go_at_call 95; refine (hN _ s4).mono ?_; rintro e w5 ⟨rfl, s5⟩; clear hN))
                  exact ⟨⟨2, x.dropWhile dch, h, _, _, _, by simp, by omega, by omega, ⟨s5.tx, s5.row, tb.trans s5.tch⟩, s5.tch.row rb (by omega), HG2⟩, by simp [intOf]⟩
          · have q0 : wr.cell? ⟨n, 6, none⟩ = some (.string ⟨#[108, 105, 109, 105, 116]⟩) := held_cell rn rfl
            have q1 : wr.cell? ⟨n, 7, none⟩ = some (.pointer (some ⟨b, 4, none⟩)) := held_cell rn rfl
            have q2 : wr.cell? ⟨n, 8, none⟩ = some (.int .i64 0) := held_cell rn rfl
            have hbw := (Array.getElem?_eq_some_iff.1 s.row).1
            have hnw := (Array.getElem?_eq_some_iff.1 rn).1
            have c0 : ∀ o, (wr.alloc o).cell? ⟨b, 4, none⟩ = some (.int .i64 lim) := fun o => held_cell ((heap_alloc_old wr o hbw).trans s.row) rfl
            have f0 : ∀ o, (wr.alloc o).frozen? ⟨b, 4, none⟩ = false := fun o => held_frozen (i := 4) ((heap_alloc_old wr o hbw).trans s.row)
            have sb : QSt g b mv w ((wr.setCell ⟨b, 4, none⟩ (.int .i64 0)).alloc (.cells #[.string ⟨#[108, 105, 109, 105, 116]⟩, .pointer (some ⟨b, 4, none⟩), .int .i64 0] 118)) l h fr up 0 nw := (s.set hne 4 (.int .i64 0) (h' := h) (fr' := fr) (up' := up) (lim' := 0) (nw' := nw) rfl).below ((Below.refl _ _).alloc (Nat.le_refl _) _)
            have bx : ((wr.setCell ⟨b, 4, none⟩ (.int .i64 0)).alloc (.cells #[.string ⟨#[108, 105, 109, 105, 116]⟩, .pointer (some ⟨b, 4, none⟩), .int .i64 0] 118)).heap[wr.heap.size]? = some (.cells #[.string ⟨#[108, 105, 109, 105, 116]⟩, .pointer (some ⟨b, 4, none⟩), .int .i64 0] 118 (0, 0)) := by
              have := heap_alloc_new (wr.setCell ⟨b, 4, none⟩ (.int .i64 0)) (.cells #[.string ⟨#[108, 105, 109, 105, 116]⟩, .pointer (some ⟨b, 4, none⟩), .int .i64 0] 118)
              simpa [World.setCell] using this
            have rb : ((wr.setCell ⟨b, 4, none⟩ (.int .i64 0)).alloc (.cells #[.string ⟨#[108, 105, 109, 105, 116]⟩, .pointer (some ⟨b, 4, none⟩), .int .i64 0] 118)).heap[n]? = some (.cells (nwCells b) 118 (0, 0)) :=
              (heap_alloc_old _ _ (by simpa [World.setCell] using hnw)).trans ((Tch.set (· = b) wr ⟨b, 4, none⟩ (.int .i64 0) rfl).row rn (by omega))
            have hTb := sb.tabs hT h9 hb9 hw0
            have hb0 : 9 ≤ ((wr.setCell ⟨b, 4, none⟩ (.int .i64 0)).alloc (.cells #[.string ⟨#[108, 105, 109, 105, 116]⟩, .pointer (some ⟨b, 4, none⟩), .int .i64 0] 118)).heap.size := Nat.le_trans hw0 sb.tch.size
            have sr := sb.rebase
            have tb := sb.tch
            have hWr := sr.word hne [108, 105, 109, 105, 116]
            clear s rn sb
            cases hwp : wordP [108, 105, 109, 105, 116] l with
            | none =>
              have HG2 : Hid (restAt 3 l h fr up 0 = goal) := hid ((rest_yes2 (numStep_skip hwp)).symm.trans HG.out)
              rw [hwp] at hWr
              simp only [wordOut] at hWr
              clear hwp HG
              go_wp2_with (go_at_call 93; refine hWr.mono ?_; rintro e w3 ⟨rfl, s3⟩; clear hWr)
              exact ⟨⟨3, l, h, fr, up, 0, by simp, by omega, hl, ⟨s3.tx, s3.row, tb.trans s3.tch⟩, s3.tch.row rb (by omega), HG2⟩, by simp [intOf]⟩
            | some r =>
              have l1 := wordP_le hwp
              rw [hwp] at hWr
              simp only [wordOut] at hWr
              have hB := fun w3 (s3 : QSt g b mv ((wr.setCell ⟨b, 4, none⟩ (.int .i64 0)).alloc (.cells #[.string ⟨#[108, 105, 109, 105, 116]⟩, .pointer (some ⟨b, 4, none⟩), .int .i64 0] 118)) w3 r h fr up 0 nw) => s3.blanks hne
              cases hbl : blankS r with
              | false =>
                have hgl : none = goal := (rest_no2 (numStep_blank hwp hbl)).symm.trans HG.out
                rw [hbl] at hB
                clear HG hwp hbl
                subst hgl
                go_wp2_with (first
                  | (go_at_call 93; refine hWr.mono ?_; rintro e w3 ⟨rfl, s3⟩; clear hWr)
                  | (go_at_call 57; refine (hB _ s3).mono ?_; rintro e w4 ⟨rfl, s4⟩; clear hB))
                go_ret
                exact ⟨rfl, tb.trans s4.tch, ⟨_, s4.tx⟩, fun _ _ _ _ _ _ h => by cases h⟩
              | true =>
                have l2 := trimL_le r
                rw [hbl] at hB
                obtain ⟨x, ex⟩ : ∃ x, trimL r = x := ⟨_, rfl⟩
                rw [ex] at l2 hB
                have hN := fun w4 (s4 : QSt g b mv ((wr.setCell ⟨b, 4, none⟩ (.int .i64 0)).alloc (.cells #[.string ⟨#[108, 105, 109, 105, 116]⟩, .pointer (some ⟨b, 4, none⟩), .int .i64 0] 118)) w4 x h fr up 0 nw) => s4.limit hne (by omega) hTb h9 hb9 hb0
                have bxc : ∀ w4, QSt g b mv ((wr.setCell ⟨b, 4, none⟩ (.int .i64 0)).alloc (.cells #[.string ⟨#[108, 105, 109, 105, 116]⟩, .pointer (some ⟨b, 4, none⟩), .int .i64 0] 118)) w4 x h fr up 0 nw → w4.cell? ⟨wr.heap.size, 1, none⟩ = some (.pointer (some ⟨b, 4, none⟩)) := fun w4 s4 => held_cell (s4.tch.row bx (by omega)) rfl
                cases hnv : (numV (x.takeWhile dch)).2 with
                | false =>
                  have hgl : none = goal := (rest_no2 (numStep_bad hwp (by rw [ex]; exact hnv))).symm.trans HG.out
                  rw [hnv] at hN
                  clear HG hwp hbl hnv ex
                  subst hgl
                  go_wp2_with (first
                    | (go_at_call 93; refine hWr.mono ?_; rintro e w3 ⟨rfl, s3⟩; clear hWr)
                    | (go_at_call 57; refine (hB _ s3).mono ?_; rintro e w4 ⟨rfl, s4⟩; clear hB; have d4 := bxc _ s4)
                    | (go_at_call 95; refine (hN _ s4).mono ?_; rintro e w5 ⟨rfl, s5⟩; clear hN))
                  go_ret
                  exact ⟨rfl, tb.trans s5.tch, ⟨_, s5.tx⟩, fun _ _ _ _ _ _ h => by cases h⟩
                | true =>
                  have HG2 : Hid (restAt 3 (x.dropWhile dch) h fr up (numV (x.takeWhile dch)).1 = goal) := hid (by
                    have := rest_yes2 (h := h) (fr := fr) (up := up) (lim := lim) (numStep_ok (d := 0) hwp hbl (by rw [ex]; exact hnv))
                    rw [ex] at this
                    exact this.symm.trans HG.out)
                  have l3 := dropWhile_le (p := dch) x
                  rw [hnv] at hN
                  clear HG hwp hbl hnv ex
                  go_wp2_with (first
                    | (go_at_call 93; refine hWr.mono ?_; rintro e w3 ⟨rfl, s3⟩; clear hWr)
                    | (go_at_call 57; refine (hB _ s3).mono ?_; rintro e w4 ⟨rfl, s4⟩; clear hB; have d4 := bxc _ s4)
                    | (go_at_call 95; refine (hN _ s4).mono ?_; rintro e w5 ⟨rfl, s5⟩; clear hN))
                  exact ⟨⟨3, x.dropWhile dch, h, _, _, _, by simp, by omega, by omega, ⟨s5.tx, s5.row, tb.trans s5.tch⟩, s5.tch.row rb (by omega), HG2⟩, by simp [intOf]⟩
          · have hWn := s.word hne [110, 101, 119, 101, 115, 116]
            have hgl : rest3 l h fr up lim = goal := HG.out
            unfold rest3 at hgl
            obtain ⟨o, ho⟩ : ∃ o, wordOut (wordP [110, 101, 119, 101, 115, 116] l) l = o := ⟨_, rfl⟩
            rw [ho] at hWn hgl
            clear ho HG rn
            subst hgl
            have hcf : ∀ w3, QSt g b mv w w3 o.2 h fr up lim nw → w3.cell? ⟨b, 5, none⟩ = some (.bool nw) ∧ w3.frozen? ⟨b, 5, none⟩ = false := fun w3 s3 => ⟨held_cell s3.row rfl, held_frozen s3.row⟩
            go_wp2_with (go_at_call 93; refine hWn.mono ?_; rintro e w3 ⟨rfl, s3⟩; obtain ⟨c3, f3⟩ := hcf _ s3; clear hWn)
            go_ret
            have s4 := s3.set hne 5 (.bool o.1) (h' := h) (fr' := fr) (up' := up) (lim' := lim) (nw' := o.1) rfl
            refine ⟨rfl, s4.tch, ⟨_, s4.tx⟩, fun r h2 f u m n he => ?_⟩
            injection he with he
            simp only [Prod.mk.injEq] at he
            obtain ⟨rfl, rfl, rfl, rfl, rfl, rfl⟩ := he
            exact s4
end Go.Proofs.YtlhodanpfpfodaaGreatDoor
