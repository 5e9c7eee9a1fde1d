/-
  Signed numbers read: the program's Decoder and the reference's. Conditions: those that each theorem names.
  Rows as they are read; chunk.readRows. Conditions: those that each theorem names.
  chunk.Get. Conditions: the bytes can be read; sizes as each theorem names.
-/
import Derived.Test.YtelabmcghahclaaDoorRRead
import Derived.Test.YtelabmcghahclaaDoorEntGet1
import Derived.Test.YtelabmcghahclaaDoorOrl
import Derived.Test.YtelabmcghahclaaDoorHop
section
namespace Go.Icz
open Go.RowKit
/-- The signed number of a plain one. -/
def unz (n : Nat) : Int := if n % 2 = 1 then -(((n + 1) / 2 : Nat) : Int) else ((n / 2 : Nat) : Int)
def sgnD (l : List Nat) (er : Nat) : Int × List Nat × Nat := (unz (numD l er).1, (numD l er).2.1, (numD l er).2.2)
end Go.Icz
namespace Go.Proofs.YtelabmcghahclaaDoor
open Go.RowKit Go.Icz Go.Shelf
set_option maxRecDepth 100000
set_option maxHeartbeats 4000000
theorem readSigned_any (v : Value) (l : List Nat) (w : World) (hv : Rd w v l) (hl : ∀ c ∈ l, c < 256) (hlen : l.length ≤ 9223372036854775807) :
    Calls Tryd.prog 101 #[v] w fun e w' => e = .returned (.tuple #[.int .i64 (unz (rdn l).1), .int .i64 ((rdn l).2.1 : Int), .int .i64 ((rdn l).2.2 : Int)]) ∧ w = w' := by
  have HR := readNumber_any v l w hv hl hlen
  have hlt := rdn_lt l
  obtain ⟨A, c, rfl, _⟩ := hv
  generalize (rdn l).1 = x at *
  generalize (rdn l).2.1 = s at *
  generalize (rdn l).2.2 = er at *
  by_cases hx : x % 2 = 1
  · have hu : unz x = -(((x + 1) / 2 : Nat) : Int) := by unfold unz; rw [if_pos hx]
    have h1 : ((x : Int) % 2 == 1) = true := by simp; omega
    have h2 : ((x : Int).tmod 2 == 1) = true := by rw [Int.tmod_eq_emod_of_nonneg (by omega)]; exact h1
    have h3 : (-((x : Int) + 1)).tdiv 2 = unz x := by
      rw [hu]
      rw [Int.neg_tdiv, Int.tdiv_eq_ediv_of_nonneg (by omega)]
      omega
    have HW : Hid (wrap64 ((-((x : Int) + 1)).tdiv 2) = unz x) := hid (by rw [h3]; exact IntWalk.wrap64_in _ ⟨by omega, by omega⟩)
    clear h3 hu hx
    go_enter Tryd.func101, Tryd.ntmps101
    go_wp2_with (go_at_call 100; refine HR.mono ?_; rintro e w' ⟨rfl, rfl⟩; clear HR)
    go_ret3
    exact ⟨by rw [← HW.out]; rfl, rfl⟩
  · have hu : unz x = ((x / 2 : Nat) : Int) := by unfold unz; rw [if_neg hx]
    have h1 : ((x : Int) % 2 == 1) = false := by simp; omega
    have HU : Hid ((x : Int) / 2 = unz x) := hid (by rw [hu]; omega)
    clear hu hx
    go_enter Tryd.func101, Tryd.ntmps101
    go_wp2_with (go_at_call 100; refine HR.mono ?_; rintro e w' ⟨rfl, rfl⟩; clear HR)
    go_ret3
    exact ⟨by rw [← HU.out]; rfl, rfl⟩
set_option maxRecDepth 100000 in
set_option maxHeartbeats 400000 in
theorem Signed_dec (B0 B g er : Nat) (l : List Nat) (w : World) (hd : DecAt w B0 B g l er) (hl : ∀ c ∈ l, c < 256) (hlen : l.length ≤ 4611686018427387904) :
    Calls Tryd.prog 76 #[.pointer (some ⟨g, 0, none⟩)] w (Took w B0 B g (.int .i64 (sgnD l er).1) (sgnD l er).2.1 (sgnD l er).2.2) := by
  have hd0 := hd
  obtain ⟨v, b0, h1, h2, h4, c0, c1, c2, f1, f2, hr⟩ := hd
  have HR := readSigned_any v l w hr.rd hl (by omega)
  have hr' := hr
  obtain ⟨A, c, rfl, hc, _⟩ := hr'
  by_cases he : er = 0
  · subst he
    by_cases hn : (rdn l).2.2 = 0
    · have hs := rdn_size hn
      have HN : Hid (sgnD l 0 = (unz (rdn l).1, l.drop (rdn l).2.1, 0)) := hid (by simp [sgnD, numD, hn])
      have hf := fun wx => run_from _ rfl hs.2.2 (A := A) (c := c) wx
      have hsl := hr.slice (rdn l).2.1 l.length hs.2.2 (Nat.le_refl _)
      rw [List.take_of_length_le (by rw [List.length_drop]; omega)] at hsl
      rw [hn] at HR
      rw [HN.out]
      generalize unz (rdn l).1 = x at *
      generalize (rdn l).2.1 = s at *
      generalize sliced A s l.length c 1 = v2 at *
      have hsl' := hsl
      obtain ⟨A2, cc2, rfl, _, _⟩ := hsl'
      simp only [List.length_drop] at hsl hf
      clear hn hs HN hd0
      go_enter Tryd.func76, Tryd.ntmps76
      go_wp2_with (first
        | (go_at_call 77; refine (Err_dec _ _ _ c0 c2).mono ?_; rintro e w' ⟨rfl, rfl⟩)
        | (go_at_call 101; refine HR.mono ?_; rintro e w' ⟨rfl, rfl⟩)
        | go_in)
      go_ret
      exact ⟨rfl, DecAt.setRest (fun h0 => h1 (by rw [List.length_drop] at h0; omega)) h2 h4 c0 c1 c2 f1 f2 hsl, grown_set _ _ _ _⟩
    · have HN : Hid (sgnD l 0 = (0, l, (rdn l).2.2)) := hid (by simp [sgnD, numD, hn, unz])
      rw [HN.out]
      have hne : (((rdn l).2.2 : Int) == 0) = false := by simp; omega
      have hst := hd0.setErr (rdn l).2.2
      generalize unz (rdn l).1 = x at *
      generalize (rdn l).2.1 = s at *
      generalize (rdn l).2.2 = er2 at *
      clear HN hn hd0 hr
      go_enter Tryd.func76, Tryd.ntmps76
      go_wp2_with (first
        | (go_at_call 77; refine (Err_dec _ _ _ c0 c2).mono ?_; rintro e w' ⟨rfl, rfl⟩)
        | (go_at_call 101; refine HR.mono ?_; rintro e w' ⟨rfl, rfl⟩)
        | go_in)
      go_ret
      exact ⟨rfl, hst, grown_set _ _ _ _⟩
  · have HN : Hid (sgnD l er = (0, l, er)) := hid (by simp [sgnD, numD, he, unz])
    rw [HN.out]
    have hne : ((er : Int) == 0) = false := by simp; omega
    clear HN he HR hr
    go_enter Tryd.func76, Tryd.ntmps76
    go_wp2_with (first
      | (go_at_call 77; refine (Err_dec _ _ _ c0 c2).mono ?_; rintro e w' ⟨rfl, rfl⟩)
      | go_in)
    go_ret
    exact ⟨rfl, hd0, World.grownBy.refl _ _⟩
theorem numR_lt (l : List Nat) (a er : Nat) : (numR l a er).1 < 72057594037927936 := by
  have := congrArg Prod.fst (numR_D l a er)
  simp only at this
  rw [← this]
  unfold numD
  split
  · show 0 < _
    omega
  · split
    · show 0 < _
      omega
    · exact rdn_lt _
theorem RSigned_dec (B g er a : Nat) (l : List Nat) (w : World) (hd : RDec w B g l a er) (hl : ∀ c ∈ l, c < 256) (hlen : l.length ≤ 4611686018427387904) :
    Calls Tryd.prog 45 #[.pointer (some ⟨g, 0, none⟩)] w (RTook w B g (.int .i64 (unz (numR l a er).1)) l (numR l a er).2.1 (numR l a er).2.2) := by
  have hN := RNumber_dec B g er a l w hd hl hlen
  have hlt := numR_lt l a er
  unfold RTook at hN
  generalize (numR l a er).1 = x at *
  generalize (numR l a er).2.1 = a2 at *
  generalize (numR l a er).2.2 = er2 at *
  clear hd
  by_cases hx : x % 2 = 1
  · have hu : unz x = -(((x + 1) / 2 : Nat) : Int) := by unfold unz; rw [if_pos hx]
    have h1 : ((x : Int) % 2 == 1) = true := by simp; omega
    have HU : Hid (-((x : Int) / 2 + 1) = unz x) := hid (by rw [hu]; omega)
    clear hu hx
    go_enter Tryd.func45, Tryd.ntmps45
    go_wp2_with (go_at_call 44; refine hN.mono ?_; rintro e w' ⟨rfl, h2, h3⟩; have HH := hid (And.intro h2 h3); clear hN h2 h3)
    go_ret
    exact ⟨by rw [← HU.out]; rfl, HH.out.1, HH.out.2⟩
  · have hu : unz x = ((x / 2 : Nat) : Int) := by unfold unz; rw [if_neg hx]
    have h1 : ((x : Int) % 2 == 1) = false := by simp; omega
    have HU : Hid ((x : Int) / 2 = unz x) := hid (by rw [hu]; omega)
    clear hu hx
    go_enter Tryd.func45, Tryd.ntmps45
    go_wp2_with (go_at_call 44; refine hN.mono ?_; rintro e w' ⟨rfl, h2, h3⟩; have HH := hid (And.intro h2 h3); clear hN h2 h3)
    go_ret
    exact ⟨by rw [← HU.out]; rfl, HH.out.1, HH.out.2⟩
end Go.Proofs.YtelabmcghahclaaDoor
end
section
namespace Go.Icz
open Go.RowKit
/-- Rows that were read: the last one's numbers, the bytes left, the error. -/
structure RSt where
  rows : List CRow
  t : Int
  s : Int
  ln : B8
  l : List Nat
  er : Nat
/-- The next row's number. -/
def seqStep (k : Nat) (s : Int) (l : List Nat) (er : Nat) : Int × List Nat × Nat :=
  if k = 0 then (((numD l er).1 : Int), (numD l er).2.1, (numD l er).2.2) else (IntKind.i64.wrap (s + (sgnD l er).1), (sgnD l er).2.1, (sgnD l er).2.2)
def rowStep (k : Nat) (st : RSt) : RSt :=
  let a := numD st.l st.er
  let b := seqStep k st.s a.2.1 a.2.2
  let c := txtD b.2.1 b.2.2
  ⟨st.rows ++ [⟨b.1, IntKind.i64.wrap (st.t + (a.1 : Int)), bt c.1⟩], IntKind.i64.wrap (st.t + (a.1 : Int)), b.1, bt c.1, c.2.1, c.2.2⟩
def rowsTo (l : List Nat) (er : Nat) : Nat → RSt
  | 0 => ⟨[], 0, 0, [], l, er⟩
  | k + 1 => rowStep k (rowsTo l er k)
/-- What readRows tells. -/
def readR (l : List Nat) (er : Nat) : RSt := if 1000 < (numD l er).1 then ⟨[], 0, 0, [], (numD l er).2.1, (numD l er).2.2⟩ else rowsTo (numD l er).2.1 (numD l er).2.2 (numD l er).1
theorem rowsTo_len (l : List Nat) (er : Nat) : ∀ k, (rowsTo l er k).rows.length = k
  | 0 => rfl
  | k + 1 => by
    show (rowStep k (rowsTo l er k)).rows.length = k + 1
    unfold rowStep
    simp only [List.length_append, List.length_singleton, rowsTo_len l er k]
theorem seqStep_sub (k : Nat) (s : Int) (l : List Nat) (er : Nat) : (∀ c ∈ (seqStep k s l er).2.1, c ∈ l) ∧ (seqStep k s l er).2.1.length ≤ l.length := by
  unfold seqStep
  split
  · exact numD_sub l er
  · exact numD_sub l er
theorem rowsTo_sub (l : List Nat) (er : Nat) : ∀ k, (∀ c ∈ (rowsTo l er k).l, c ∈ l) ∧ (rowsTo l er k).l.length ≤ l.length
  | 0 => ⟨fun _ h => h, Nat.le_refl _⟩
  | k + 1 => by
    have ih := rowsTo_sub l er k
    have h1 := numD_sub (rowsTo l er k).l (rowsTo l er k).er
    have h2 := seqStep_sub k (rowsTo l er k).s (numD (rowsTo l er k).l (rowsTo l er k).er).2.1 (numD (rowsTo l er k).l (rowsTo l er k).er).2.2
    have h3 := txtD_sub (seqStep k (rowsTo l er k).s (numD (rowsTo l er k).l (rowsTo l er k).er).2.1 (numD (rowsTo l er k).l (rowsTo l er k).er).2.2).2.1 (seqStep k (rowsTo l er k).s (numD (rowsTo l er k).l (rowsTo l er k).er).2.1 (numD (rowsTo l er k).l (rowsTo l er k).er).2.2).2.2
    exact ⟨fun c hc => ih.1 c (h1.1 c (h2.1 c (h3.1 c hc))), by have := ih.2; have := h1.2; have := h2.2; have := h3.2.1; show (txtD _ _).2.1.length ≤ l.length; omega⟩
theorem rowsTo_line (l : List Nat) (er : Nat) : ∀ k, ∀ x ∈ (rowsTo l er k).rows, x.line.length ≤ l.length
  | 0, x, h => by cases h
  | k + 1, x, h => by
    have h' : x ∈ (rowsTo l er k).rows ++ [⟨(seqStep k (rowsTo l er k).s (numD (rowsTo l er k).l (rowsTo l er k).er).2.1 (numD (rowsTo l er k).l (rowsTo l er k).er).2.2).1, IntKind.i64.wrap ((rowsTo l er k).t + ((numD (rowsTo l er k).l (rowsTo l er k).er).1 : Int)), bt (txtD (seqStep k (rowsTo l er k).s (numD (rowsTo l er k).l (rowsTo l er k).er).2.1 (numD (rowsTo l er k).l (rowsTo l er k).er).2.2).2.1 (seqStep k (rowsTo l er k).s (numD (rowsTo l er k).l (rowsTo l er k).er).2.1 (numD (rowsTo l er k).l (rowsTo l er k).er).2.2).2.2).1⟩] := h
    rcases List.mem_append.1 h' with h' | h'
    · exact rowsTo_line l er k x h'
    · obtain rfl := List.mem_singleton.1 h'
      have h0 := rowsTo_sub l er k
      have h1 := numD_sub (rowsTo l er k).l (rowsTo l er k).er
      have h2 := seqStep_sub k (rowsTo l er k).s (numD (rowsTo l er k).l (rowsTo l er k).er).2.1 (numD (rowsTo l er k).l (rowsTo l er k).er).2.2
      have h3 := txtD_sub (seqStep k (rowsTo l er k).s (numD (rowsTo l er k).l (rowsTo l er k).er).2.1 (numD (rowsTo l er k).l (rowsTo l er k).er).2.2).2.1 (seqStep k (rowsTo l er k).s (numD (rowsTo l er k).l (rowsTo l er k).er).2.1 (numD (rowsTo l er k).l (rowsTo l er k).er).2.2).2.2
      simp only [bt, List.length_map]
      have := h0.2; have := h1.2; have := h2.2; have := h3.2.2
      omega
theorem readR_sub (l : List Nat) (er : Nat) : (∀ c ∈ (readR l er).l, c ∈ l) ∧ (readR l er).l.length ≤ l.length ∧ (readR l er).rows.length ≤ 1000 ∧ ∀ x ∈ (readR l er).rows, x.line.length ≤ l.length := by
  have h1 := numD_sub l er
  unfold readR
  split
  · exact ⟨h1.1, h1.2, by simp, by simp⟩
  · have h2 := rowsTo_sub (numD l er).2.1 (numD l er).2.2 (numD l er).1
    refine ⟨fun c hc => h1.1 c (h2.1 c hc), by have := h1.2; have := h2.2; omega, by rw [rowsTo_len]; omega, fun x hx => ?_⟩
    have := rowsTo_line (numD l er).2.1 (numD l er).2.2 (numD l er).1 x hx
    have := h1.2
    omega
end Go.Icz
namespace Go.Proofs.YtelabmcghahclaaDoor
open Go.RowKit Go.Icz Go.Shelf
attribute [local go_sem] Oper.semAt_some
set_option maxRecDepth 100000
set_option maxHeartbeats 4000000
/-- Rows in the midst: the row that is read into, the decoder, the rows. -/
structure RS (w1 : World) (B0 B g : Nat) (W : World) (a b c v : Value) (rows : List CRow) (l : List Nat) (er : Nat) : Prop where
  X : W.heap[w1.heap.size]? = some (.cells #[a, b, c] 60 (0, 0))
  D : DecAt W B0 B g l er
  O : KRw.Own W (w1.heap.size + 1) v rows
  G : w1.grownBy W (some g)
theorem RS.took {w1 : World} {B0 B g : Nat} {W W' : World} {a b c v : Value} {rows : List CRow} {l l' : List Nat} {er er' : Nat} (h : RS w1 B0 B g W a b c v rows l er) (hg : g < B ∧ B ≤ w1.heap.size) (d : DecAt W' B0 B g l' er') (q : W.grownBy W' (some g)) : RS w1 B0 B g W' a b c v rows l' er' :=
  ⟨(q.block _ (Array.getElem?_eq_some_iff.1 h.X).1 (fun e => by injection e with e; omega)).trans h.X, d, h.O.far q (fun k hk e => by have := (h.O.lt k hk).1; omega), World.grownBy.trans h.G q⟩
theorem RS.set {w1 : World} {B0 B g : Nat} {W : World} {a b c v : Value} {rows : List CRow} {l : List Nat} {er : Nat} (h : RS w1 B0 B g W a b c v rows l er) (hg : g < B ∧ B ≤ w1.heap.size) (i : Nat) (u : Value) : DecAt (W.setCell ⟨w1.heap.size, i, none⟩ u) B0 B g l er ∧ KRw.Own (W.setCell ⟨w1.heap.size, i, none⟩ u) (w1.heap.size + 1) v rows ∧ w1.grownBy (W.setCell ⟨w1.heap.size, i, none⟩ u) (some g) :=
  ⟨h.D.below ((Below.refl B W).setCell hg.2 _), h.O.far (grown_set W w1.heap.size i u) (fun k hk e => by have := (h.O.lt k hk).1; omega), ⟨h.G.os, h.G.tape, h.G.output, by have := h.G.size; simp [World.setCell]; exact this, fun k hk hne => (Below.heap_setCell W ⟨w1.heap.size, i, none⟩ u k (by show k ≠ w1.heap.size; omega)).trans (h.G.block k hk hne)⟩⟩
theorem RS.put0 {w1 : World} {B0 B g : Nat} {W : World} {a b c v : Value} {rows : List CRow} {l : List Nat} {er : Nat} (h : RS w1 B0 B g W a b c v rows l er) (hg : g < B ∧ B ≤ w1.heap.size) (u : Value) : RS w1 B0 B g (W.setCell ⟨w1.heap.size, 0, none⟩ u) u b c v rows l er := ⟨row_set (i := 0) h.X u, (h.set hg 0 u).1, (h.set hg 0 u).2.1, (h.set hg 0 u).2.2⟩
theorem RS.put1 {w1 : World} {B0 B g : Nat} {W : World} {a b c v : Value} {rows : List CRow} {l : List Nat} {er : Nat} (h : RS w1 B0 B g W a b c v rows l er) (hg : g < B ∧ B ≤ w1.heap.size) (u : Value) : RS w1 B0 B g (W.setCell ⟨w1.heap.size, 1, none⟩ u) a u c v rows l er := ⟨row_set (i := 1) h.X u, (h.set hg 1 u).1, (h.set hg 1 u).2.1, (h.set hg 1 u).2.2⟩
theorem RS.put2 {w1 : World} {B0 B g : Nat} {W : World} {a b c v : Value} {rows : List CRow} {l : List Nat} {er : Nat} (h : RS w1 B0 B g W a b c v rows l er) (hg : g < B ∧ B ≤ w1.heap.size) (u : Value) : RS w1 B0 B g (W.setCell ⟨w1.heap.size, 2, none⟩ u) a b u v rows l er := ⟨row_set (i := 2) h.X u, (h.set hg 2 u).1, (h.set hg 2 u).2.1, (h.set hg 2 u).2.2⟩
/-- It answers these rows in memory of their own; the decoder has turned. -/
def RrOut (B0 B g : Nat) (st : RSt) (w : World) (e : Ending) (w' : World) : Prop := ∃ v, e = .returned v ∧ KRw.Own w' w.heap.size v st.rows ∧ DecAt w' B0 B g st.l st.er ∧ w.grownBy w' (some g)
theorem readRows_no (B0 B g er : Nat) (l : List Nat) (w : World) (hd : DecAt w B0 B g l er) (hl : ∀ c ∈ l, c < 256) (hlen : l.length ≤ 4611686018427387904) (hc : 1000 < (numD l er).1) :
    Calls Tryd.prog 39 #[.pointer (some ⟨g, 0, none⟩)] w (RrOut B0 B g (readR l er) w) := by
  have hN := Number_dec B0 B g er l w hd hl hlen
  unfold Took at hN
  have hv : readR l er = ⟨[], 0, 0, [], (numD l er).2.1, (numD l er).2.2⟩ := by unfold readR; rw [if_pos hc]
  have hc2 : (1000 : Int) < ((numD l er).1 : Int) := by omega
  rw [hv]
  generalize (numD l er).1 = x at *
  generalize (numD l er).2.1 = l2 at *
  generalize (numD l er).2.2 = er2 at *
  clear hv hd hc
  go_enter Tryd.func39, Tryd.ntmps39
  go_wp2_with (go_at_call 73; refine hN.mono ?_; rintro e w' ⟨rfl, h2, h3⟩; have HH := hid (And.intro h2 h3); clear hN h2 h3)
  go_ret
  exact ⟨_, rfl, Kd.Own.nil _ _, HH.out.1, HH.out.2⟩
theorem readRows_yes (B0 B g er : Nat) (l : List Nat) (w : World) (hd : DecAt w B0 B g l er) (hB : B ≤ w.heap.size) (hl : ∀ c ∈ l, c < 256) (hlen : l.length ≤ 4611686018427387904) (hc : ¬ 1000 < (numD l er).1) :
    Calls Tryd.prog 39 #[.pointer (some ⟨g, 0, none⟩)] w (RrOut B0 B g (readR l er) w) := by
  have hN := Number_dec B0 B g er l w hd hl hlen
  unfold Took at hN
  have hv : readR l er = rowsTo (numD l er).2.1 (numD l er).2.2 (numD l er).1 := by unfold readR; rw [if_neg hc]
  have hc2 : ¬ (1000 : Int) < ((numD l er).1 : Int) := by omega
  have hs := numD_sub l er
  have hgB : g < B := by obtain ⟨_, _, _, h2, _⟩ := hd; exact h2.2
  rw [hv]
  have HL : Hid (∀ k, (∀ c ∈ (rowsTo (numD l er).2.1 (numD l er).2.2 k).l, c < 256) ∧ (rowsTo (numD l er).2.1 (numD l er).2.2 k).l.length ≤ 4611686018427387904) := hid (fun k => by
    have := rowsTo_sub (numD l er).2.1 (numD l er).2.2 k
    exact ⟨fun c hc => hl c (hs.1 c (this.1 c hc)), by have := this.2; omega⟩)
  generalize (numD l er).1 = n at *
  generalize (numD l er).2.1 = l2 at *
  generalize (numD l er).2.2 = er2 at *
  have HGB := hid (And.intro hgB hB)
  have hn : n ≤ 1000 := by omega
  have HNN := hid hn
  clear hv hd hc hs hl hlen hgB hB hn
  go_enter Tryd.func39, Tryd.ntmps39
  go_wp2_with (go_at_call 73; refine hN.mono ?_; rintro e w1 ⟨rfl, h2, h3⟩; have HD := hid h2; have HG := hid h3; clear hN h2 h3)
  have xr := heap_alloc_new w1 (.cells #[.int .i64 0, .int .i64 0, .string ⟨#[]⟩] 60)
  have hw1 : w.heap.size ≤ w1.heap.size := HG.out.size
  have hal : w1.grownBy (w1.alloc (.cells #[.int .i64 0, .int .i64 0, .string ⟨#[]⟩] 60)) (some g) := ⟨rfl, rfl, rfl, by simp, fun k hk _ => heap_alloc_old _ _ hk⟩
  have D0 := HD.out.below ((Below.refl B w1).alloc (Nat.le_trans HGB.out.2 hw1) (.cells #[.int .i64 0, .int .i64 0, .string ⟨#[]⟩] 60))
  have HZ := hid hw1
  have HXR := hid xr
  have HAL := hid hal
  have HD0 := hid D0
  clear xr hal D0 hw1 HD
  go_wp2
  go_loopw [4, 12] (fun ov iv wr => ∃ i : Nat, iv = .int .i64 (i : Int) ∧ Hid (i ≤ n) ∧ Hid (RS w1 B0 B g wr (.int .i64 (rowsTo l2 er2 i).s) (.int .i64 (rowsTo l2 er2 i).t) (.string ⟨(rowsTo l2 er2 i).ln.toArray⟩) ov (rowsTo l2 er2 i).rows (rowsTo l2 er2 i).l (rowsTo l2 er2 i).er)) (fun _ iv _ => n - (intOf iv).toNat)
  case atStart => exact ⟨0, rfl, hid (Nat.zero_le _), hid ⟨HXR.out, HD0.out, Kd.Own.nil _ _, HAL.out⟩⟩
  case round =>
    obtain ⟨i, rfl, hi, HR⟩ := hrel
    have HGX : Hid (g < B ∧ B ≤ w1.heap.size) := hid ⟨HGB.out.1, Nat.le_trans HGB.out.2 HZ.out⟩
    by_cases hil : i < n
    · have hii : (i : Int) < (n : Int) := by omega
      have HIL := hid hil
      have hi2 : (i : Int) + 1 ≤ 1000 := by omega
      have HST : Hid (rowsTo l2 er2 (i + 1) = rowStep i (rowsTo l2 er2 i)) := hid rfl
      have HLL := hid (HL.out i)
      have HRL : Hid ((rowsTo l2 er2 i).rows.length ≤ 1000) := hid (by rw [rowsTo_len]; omega)
      generalize rowsTo l2 er2 i = st at *
      obtain ⟨rows, tm, sq, ln, l3, er3⟩ := st
      simp only at HR HLL HRL
      have NUM := fun wx (h : DecAt wx B0 B g l3 er3) => Number_dec B0 B g er3 l3 wx h HLL.out.1 HLL.out.2
      have s1 := numD_sub l3 er3
      have HUN : Hid (rowStep i ⟨rows, tm, sq, ln, l3, er3⟩ = ⟨rows ++ [⟨(seqStep i sq (numD l3 er3).2.1 (numD l3 er3).2.2).1, IntKind.i64.wrap (tm + ((numD l3 er3).1 : Int)), bt (txtD (seqStep i sq (numD l3 er3).2.1 (numD l3 er3).2.2).2.1 (seqStep i sq (numD l3 er3).2.1 (numD l3 er3).2.2).2.2).1⟩], IntKind.i64.wrap (tm + ((numD l3 er3).1 : Int)), (seqStep i sq (numD l3 er3).2.1 (numD l3 er3).2.2).1, bt (txtD (seqStep i sq (numD l3 er3).2.1 (numD l3 er3).2.2).2.1 (seqStep i sq (numD l3 er3).2.1 (numD l3 er3).2.2).2.2).1, (txtD (seqStep i sq (numD l3 er3).2.1 (numD l3 er3).2.2).2.1 (seqStep i sq (numD l3 er3).2.1 (numD l3 er3).2.2).2.2).2.1, (txtD (seqStep i sq (numD l3 er3).2.1 (numD l3 er3).2.2).2.1 (seqStep i sq (numD l3 er3).2.1 (numD l3 er3).2.2).2.2).2.2⟩) := hid rfl
      have l4a : ∀ c ∈ (numD l3 er3).2.1, c < 256 := fun c hc => HLL.out.1 c (s1.1 c hc)
      have l4b : (numD l3 er3).2.1.length ≤ 4611686018427387904 := by have := s1.2; have := HLL.out.2; omega
      unfold Took at NUM
      generalize (numD l3 er3).1 = na at *
      generalize (numD l3 er3).2.1 = l4 at *
      generalize (numD l3 er3).2.2 = er4 at *
      have s2 := seqStep_sub i sq l4 er4
      have TXT := fun wx (h : DecAt wx B0 B g (seqStep i sq l4 er4).2.1 (seqStep i sq l4 er4).2.2) => Text_bt B0 B g (seqStep i sq l4 er4).2.2 (seqStep i sq l4 er4).2.1 wx h (fun c hc => l4a c (s2.1 c hc)) (by have := s2.2; omega)
      have SEQ0 : i = 0 → ∀ wx, DecAt wx B0 B g l4 er4 → Calls Tryd.prog 73 #[.pointer (some ⟨g, 0, none⟩)] wx (Took wx B0 B g (.int .i64 (seqStep i sq l4 er4).1) (seqStep i sq l4 er4).2.1 (seqStep i sq l4 er4).2.2) := fun h0 wx h => by
        unfold seqStep
        rw [if_pos h0]
        exact Number_dec B0 B g er4 l4 wx h l4a l4b
      have SEQ1 : ¬ i = 0 → ∃ z, IntKind.i64.wrap (sq + z) = (seqStep i sq l4 er4).1 ∧ ∀ wx, DecAt wx B0 B g l4 er4 → Calls Tryd.prog 76 #[.pointer (some ⟨g, 0, none⟩)] wx (Took wx B0 B g (.int .i64 z) (seqStep i sq l4 er4).2.1 (seqStep i sq l4 er4).2.2) := fun h0 => by
        unfold seqStep
        rw [if_neg h0]
        exact ⟨_, rfl, fun wx h => Signed_dec B0 B g er4 l4 wx h l4a l4b⟩
      unfold Took at TXT SEQ0 SEQ1
      have S0 := hid SEQ0
      have S1 := hid SEQ1
      have HTX := hid TXT
      generalize (seqStep i sq l4 er4).1 = sq2 at *
      generalize (seqStep i sq l4 er4).2.1 = l5 at *
      generalize (seqStep i sq l4 er4).2.2 = er5 at *
      clear s1 s2 l4a l4b SEQ0 SEQ1 TXT hil
      generalize (txtD l5 er5).1 = tx at *
      generalize (txtD l5 er5).2.1 = l6 at *
      generalize (txtD l5 er5).2.2 = er6 at *
      obtain ⟨Ao, co, hv4, _⟩ := HR.out.O.rd.form
      subst hv4
      have A : Hid (RS w1 B0 B g wr.drew (.int .i64 sq) (.int .i64 tm) (.string ⟨ln.toArray⟩) (.slice Ao rows.length co) rows l3 er3) := hid ⟨HR.out.X, HR.out.D, HR.out.O, ⟨HR.out.G.os, HR.out.G.tape, HR.out.G.output, HR.out.G.size, HR.out.G.block⟩⟩
      have HZQ : Hid True := hid trivial
      go_wp2
      refine wp_region_L 6 (fun wS => wS.cell? ⟨w1.heap.size, 1, none⟩ = some (.int .i64 tm)) (by kernel_rfl) ?_
      refine takeL (i := 0) (d := 15) (v := .pointer (some ⟨w1.heap.size, 1, none⟩)) rfl rfl (by kernel_rfl) (by kernel_rfl) (by kernel_rfl) (by kernel_rfl) (by kernel_rfl) (fun _ _ _ h => h) (Or.inl ⟨by rfl, fun wS hSw => by go_simp <;> first | rfl | exact HZQ.out⟩) (held_cell (i := 1) A.out.X rfl) ?_
      try simp only [List.setIfInBounds_toArray, List.set_cons_zero, List.set_cons_succ]
      refine takeL (i := 1) (d := 16) (v := .int .i64 tm) rfl rfl (by kernel_rfl) (by kernel_rfl) (by kernel_rfl) (by kernel_rfl) (by kernel_rfl) (fun _ _ _ h => h) (Or.inl ⟨by rfl, fun wS hSw => by go_simp <;> first | rfl | exact HZQ.out⟩) (held_cell (i := 1) A.out.X rfl) ?_
      try simp only [List.setIfInBounds_toArray, List.set_cons_zero, List.set_cons_succ]
      refine takeL (i := 2) (d := 17) (v := .pointer (some ⟨g, 0, none⟩)) rfl rfl (by kernel_rfl) (by kernel_rfl) (by kernel_rfl) (by kernel_rfl) (by kernel_rfl) (fun _ _ _ h => h) (Or.inl ⟨by rfl, fun wS hSw => by go_simp <;> first | rfl | exact HZQ.out⟩) (held_cell (i := 1) A.out.X rfl) ?_
      try simp only [List.setIfInBounds_toArray, List.set_cons_zero, List.set_cons_succ]
      refine readyL (rs := [3]) (by kernel_rfl) (by simp) ?_
      refine AllReadyL.cons rfl (fun K hK => ?_) AllReadyL.nil
      go_simp
      go_at_call 73
      refine (NUM _ A.out.D).mono ?_
      rintro e vA ⟨rfl, dA, qA⟩
      have TA := hid (A.out.took HGX.out dA qA)
      refine hK.out _ _ (held_cell (i := 1) TA.out.X rfl) ?_
      clear hK K qA dA
      try simp only [Act.put, List.setIfInBounds_toArray, List.set_cons_zero, List.set_cons_succ]
      refine takeL (i := 4) (d := 19) (v := .int .i64 (IntKind.i64.wrap (tm + (na : Int)))) rfl rfl (by kernel_rfl) (by kernel_rfl) (by kernel_rfl) (by kernel_rfl) (by kernel_rfl) (fun _ _ _ h => h) (Or.inl ⟨by rfl, fun wS hSw => by go_simp <;> first | rfl | exact HZQ.out⟩) (held_cell (i := 1) TA.out.X rfl) ?_
      try simp only [List.setIfInBounds_toArray, List.set_cons_zero, List.set_cons_succ]
      refine takeL (i := 5) (d := 20) (v := .pointer (some ⟨w1.heap.size, 1, none⟩)) rfl rfl (by kernel_rfl) (by kernel_rfl) (by kernel_rfl) (by kernel_rfl) (by kernel_rfl) (fun _ _ _ h => h) (Or.inl ⟨by rfl, fun wS hSw => by go_simp <;> first | rfl | exact HZQ.out⟩) (held_cell (i := 1) TA.out.X rfl) ?_
      try simp only [List.setIfInBounds_toArray, List.set_cons_zero, List.set_cons_succ]
      refine readyL (rs := [6]) (by kernel_rfl) (by simp) ?_
      refine AllReadyL.last rfl (fun K hK => ?_)
      have cA := held_cell (i := 1) TA.out.X rfl
      have fA := held_frozen (i := 1) TA.out.X
      rw [if_pos (by rfl)]
      go_simp
      refine hK.out _ _ ?_
      clear hK K cA fA
      refine doneL (by kernel_rfl) ?_
      have PA := hid (TA.out.put1 HGX.out (.int .i64 (IntKind.i64.wrap (tm + (na : Int)))))
      generalize vA.setCell ⟨w1.heap.size, 1, none⟩ (.int .i64 (IntKind.i64.wrap (tm + (na : Int)))) = WA at *
      clear TA
      generalize IntKind.i64.wrap (tm + (na : Int)) = tw at *
      by_cases h0 : i = 0
      · have NUM2 := S0.out h0
        have h0' : ((i : Int) == 0) = true := by simp [h0]
        have h0'' : (i : Int) = 0 := by omega
        clear h0
        have TXT := HTX.out
        go_wp2_with (first
          | (go_at_call 73; refine (NUM2 _ PA.out.D).mono ?_; rintro e w11 ⟨rfl, d11, q11⟩; have T11 := hid (PA.out.took HGX.out d11 q11); have f11 := held_frozen (i := 0) T11.out.X; have c11 := held_cell (i := 0) T11.out.X rfl; have PB := hid (T11.out.put0 HGX.out (.int .i64 sq2)); clear d11 q11 NUM2)
          | (go_at_call 38; refine (TXT _ PB.out.D).mono ?_; rintro e w13 ⟨rfl, d13, q13⟩; have T13 := hid (PB.out.took HGX.out d13 q13); have f13 := held_frozen (i := 2) T13.out.X; have c13 := held_cell (i := 2) T13.out.X rfl; have P13 := hid (T13.out.put2 HGX.out (.string ⟨(bt tx).toArray⟩)); have e0 := held_cell (i := 0) P13.out.X rfl; have e1 := held_cell (i := 1) P13.out.X rfl; have e2 := held_cell (i := 2) P13.out.X rfl; clear d13 q13 TXT)
          | (at_builtin; go_loud (refine Kd.wp_app1 (K := KRw) rfl (.tmp 35) (.tmp 37) 28 rfl Tryd.underlying28 infoRw rfl (w1.heap.size + 1) _ rows ⟨sq2, tw, bt tx⟩ rfl P13.out.O (n := w13.heap.size) (by simp [World.setCell]) rfl rfl (by have := HRL.out; unfold maxLen; omega) (by have := HRL.out; omega) (row_lt P13.out.X) ?_; intro v14 w14 o14 b14 g14 n14)))
        go_roundw
        case rel =>
          refine ⟨i + 1, by go_num, HIL, ?_⟩
          rw [HST.out, HUN.out]
          have al := (Below.refl (w13.setCell ⟨w1.heap.size, 2, none⟩ (.string ⟨(bt tx).toArray⟩)).heap.size (w13.setCell ⟨w1.heap.size, 2, none⟩ (.string ⟨(bt tx).toArray⟩))).alloc (Nat.le_refl _) (.cells #[.int .i64 sq2, .int .i64 tw, .string ⟨(bt tx).toArray⟩] 60)
          have hlt := P13.out.O.lt
          have hx := row_lt P13.out.X
          have ggb : ∀ k, k < (w13.setCell ⟨w1.heap.size, 2, none⟩ (.string ⟨(bt tx).toArray⟩)).heap.size → k < w1.heap.size + 1 → w14.heap[k]? = (w13.setCell ⟨w1.heap.size, 2, none⟩ (.string ⟨(bt tx).toArray⟩)).heap[k]? := fun k hk hk2 => b14.block k hk2
          have b1 : Below (w1.heap.size + 1) (w13.setCell ⟨w1.heap.size, 2, none⟩ (.string ⟨(bt tx).toArray⟩)) w14 := b14
          exact hid ⟨(ggb _ hx (Nat.lt_succ_self _)).trans P13.out.X, P13.out.D.below (b1.mono (by have := HGX.out; omega)), o14, ⟨b1.os.trans P13.out.G.os, b1.tape.trans P13.out.G.tape, b1.output.trans P13.out.G.output, Nat.le_trans P13.out.G.size b1.size, fun k hk hne => (b1.block k (by omega)).trans (P13.out.G.block k hk hne)⟩⟩
        case measure => have := HIL.out; simp [intOf]; omega
      · obtain ⟨z, hz, sgn⟩ := S1.out h0
        have h0' : ((i : Int) == 0) = false := by simp [h0]
        have HZQ : Hid (IntKind.i64.wrap (sq + z) = sq2) := hid hz
        clear h0 hz
        go_wp2
        have B : Hid (RS w1 B0 B g WA.drew (.int .i64 sq) (.int .i64 tw) (.string ⟨ln.toArray⟩) (.slice Ao rows.length co) rows l4 er4) := hid ⟨PA.out.X, PA.out.D, PA.out.O, ⟨PA.out.G.os, PA.out.G.tape, PA.out.G.output, PA.out.G.size, PA.out.G.block⟩⟩
        refine wp_region_L 6 (fun wS => wS.cell? ⟨w1.heap.size, 0, none⟩ = some (.int .i64 sq)) (by kernel_rfl) ?_
        refine takeL (i := 0) (d := 26) (v := .pointer (some ⟨w1.heap.size, 0, none⟩)) rfl rfl (by kernel_rfl) (by kernel_rfl) (by kernel_rfl) (by kernel_rfl) (by kernel_rfl) (fun _ _ _ h => h) (Or.inl ⟨by rfl, fun wS hSw => by go_simp <;> first | rfl | exact HZQ.out⟩) (held_cell (i := 0) B.out.X rfl) ?_
        try simp only [List.setIfInBounds_toArray, List.set_cons_zero, List.set_cons_succ]
        refine takeL (i := 1) (d := 27) (v := .int .i64 sq) rfl rfl (by kernel_rfl) (by kernel_rfl) (by kernel_rfl) (by kernel_rfl) (by kernel_rfl) (fun _ _ _ h => h) (Or.inl ⟨by rfl, fun wS hSw => by go_simp <;> first | rfl | exact HZQ.out⟩) (held_cell (i := 0) B.out.X rfl) ?_
        try simp only [List.setIfInBounds_toArray, List.set_cons_zero, List.set_cons_succ]
        refine takeL (i := 2) (d := 28) (v := .pointer (some ⟨g, 0, none⟩)) rfl rfl (by kernel_rfl) (by kernel_rfl) (by kernel_rfl) (by kernel_rfl) (by kernel_rfl) (fun _ _ _ h => h) (Or.inl ⟨by rfl, fun wS hSw => by go_simp <;> first | rfl | exact HZQ.out⟩) (held_cell (i := 0) B.out.X rfl) ?_
        try simp only [List.setIfInBounds_toArray, List.set_cons_zero, List.set_cons_succ]
        refine readyL (rs := [3]) (by kernel_rfl) (by simp) ?_
        refine AllReadyL.cons rfl (fun K hK => ?_) AllReadyL.nil
        go_simp
        go_at_call 76
        refine (sgn _ B.out.D).mono ?_
        rintro e vB ⟨rfl, dB, qB⟩
        have TB := hid (B.out.took HGX.out dB qB)
        refine hK.out _ _ (held_cell (i := 0) TB.out.X rfl) ?_
        clear hK K qB dB
        try simp only [Act.put, List.setIfInBounds_toArray, List.set_cons_zero, List.set_cons_succ]
        refine takeL (i := 4) (d := 30) (v := .int .i64 sq2) rfl rfl (by kernel_rfl) (by kernel_rfl) (by kernel_rfl) (by kernel_rfl) (by kernel_rfl) (fun _ _ _ h => h) (Or.inl ⟨by rfl, fun wS hSw => by go_simp <;> first | rfl | exact HZQ.out⟩) (held_cell (i := 0) TB.out.X rfl) ?_
        try simp only [List.setIfInBounds_toArray, List.set_cons_zero, List.set_cons_succ]
        refine takeL (i := 5) (d := 31) (v := .pointer (some ⟨w1.heap.size, 0, none⟩)) rfl rfl (by kernel_rfl) (by kernel_rfl) (by kernel_rfl) (by kernel_rfl) (by kernel_rfl) (fun _ _ _ h => h) (Or.inl ⟨by rfl, fun wS hSw => by go_simp <;> first | rfl | exact HZQ.out⟩) (held_cell (i := 0) TB.out.X rfl) ?_
        try simp only [List.setIfInBounds_toArray, List.set_cons_zero, List.set_cons_succ]
        refine readyL (rs := [6]) (by kernel_rfl) (by simp) ?_
        refine AllReadyL.last rfl (fun K hK => ?_)
        have cB := held_cell (i := 0) TB.out.X rfl
        have fB := held_frozen (i := 0) TB.out.X
        rw [if_pos (by rfl)]
        go_simp
        refine hK.out _ _ ?_
        clear hK K cB fB
        refine doneL (by kernel_rfl) ?_
        have PB := hid (TB.out.put0 HGX.out (.int .i64 sq2))
        generalize vB.setCell ⟨w1.heap.size, 0, none⟩ (.int .i64 sq2) = WB at *
        clear TB
        have TXT := HTX.out
        go_wp2_with (first
          | (go_at_call 38; refine (TXT _ PB.out.D).mono ?_; rintro e w13 ⟨rfl, d13, q13⟩; have T13 := hid (PB.out.took HGX.out d13 q13); have f13 := held_frozen (i := 2) T13.out.X; have c13 := held_cell (i := 2) T13.out.X rfl; have P13 := hid (T13.out.put2 HGX.out (.string ⟨(bt tx).toArray⟩)); have e0 := held_cell (i := 0) P13.out.X rfl; have e1 := held_cell (i := 1) P13.out.X rfl; have e2 := held_cell (i := 2) P13.out.X rfl; clear d13 q13 TXT)
          | (at_builtin; go_loud (refine Kd.wp_app1 (K := KRw) rfl (.tmp 35) (.tmp 37) 28 rfl Tryd.underlying28 infoRw rfl (w1.heap.size + 1) _ rows ⟨sq2, tw, bt tx⟩ rfl P13.out.O (n := w13.heap.size) (by simp [World.setCell]) rfl rfl (by have := HRL.out; unfold maxLen; omega) (by have := HRL.out; omega) (row_lt P13.out.X) ?_; intro v14 w14 o14 b14 g14 n14)))
        go_roundw
        case rel =>
          refine ⟨i + 1, by go_num, HIL, ?_⟩
          rw [HST.out, HUN.out]
          have al := (Below.refl (w13.setCell ⟨w1.heap.size, 2, none⟩ (.string ⟨(bt tx).toArray⟩)).heap.size (w13.setCell ⟨w1.heap.size, 2, none⟩ (.string ⟨(bt tx).toArray⟩))).alloc (Nat.le_refl _) (.cells #[.int .i64 sq2, .int .i64 tw, .string ⟨(bt tx).toArray⟩] 60)
          have hlt := P13.out.O.lt
          have hx := row_lt P13.out.X
          have ggb : ∀ k, k < (w13.setCell ⟨w1.heap.size, 2, none⟩ (.string ⟨(bt tx).toArray⟩)).heap.size → k < w1.heap.size + 1 → w14.heap[k]? = (w13.setCell ⟨w1.heap.size, 2, none⟩ (.string ⟨(bt tx).toArray⟩)).heap[k]? := fun k hk hk2 => b14.block k hk2
          have b1 : Below (w1.heap.size + 1) (w13.setCell ⟨w1.heap.size, 2, none⟩ (.string ⟨(bt tx).toArray⟩)) w14 := b14
          exact hid ⟨(ggb _ hx (Nat.lt_succ_self _)).trans P13.out.X, P13.out.D.below (b1.mono (by have := HGX.out; omega)), o14, ⟨b1.os.trans P13.out.G.os, b1.tape.trans P13.out.G.tape, b1.output.trans P13.out.G.output, Nat.le_trans P13.out.G.size b1.size, fun k hk hne => (b1.block k (by omega)).trans (P13.out.G.block k hk hne)⟩⟩
        case measure => have := HIL.out; simp [intOf]; omega
    · have hii : ¬ (i : Int) < (n : Int) := by omega
      have hie : i = n := by have := hi.out; omega
      subst hie
      clear hil
      go_wp2
      go_ret
      exact ⟨_, rfl, HR.out.O.mono (by have := HZ.out; omega), HR.out.D, World.grownBy.trans HG.out HR.out.G⟩
theorem readRows_is (B0 B g er : Nat) (l : List Nat) (w : World) (hd : DecAt w B0 B g l er) (hB : B ≤ w.heap.size) (hl : ∀ c ∈ l, c < 256) (hlen : l.length ≤ 4611686018427387904) :
    Calls Tryd.prog 39 #[.pointer (some ⟨g, 0, none⟩)] w (RrOut B0 B g (readR l er) w) := by
  by_cases hc : 1000 < (numD l er).1
  · exact readRows_no B0 B g er l w hd hl hlen hc
  · exact readRows_yes B0 B g er l w hd hB hl hlen hc
end Go.Proofs.YtelabmcghahclaaDoor
end
section
namespace Go.Icz
open Go.RowKit
/-- The rows behind the labels of a chunk's bytes. -/
def gRows (l : List Nat) : RSt := readR (txtD l 0).2.1 (txtD l 0).2.2
def gLabs (l : List Nat) : List Lab := (readS (txtD l 0).1).1
def gOk (l : List Nat) : Bool := decide ((readS (txtD l 0).1).2 = 0 ∧ doneD (gRows l).l (gRows l).er = 0) && chR (gLabs l) (gRows l).rows
/-- What Get tells: labels, rows, the error. -/
def getC (l : List Nat) : List Lab × List CRow × Nat := if gOk l = true then (gLabs l, (gRows l).rows, 0) else ([], [], 21)
end Go.Icz
namespace Go.Proofs.YtelabmcghahclaaDoor
open Go.RowKit Go.Icz Go.Shelf
attribute [local go_sem] Oper.semAt_some
set_option maxRecDepth 100000
set_option maxHeartbeats 4000000
/-- It answers a chunk that reads so, and this error. -/
def CgOut (K : Kd CRow) (q : List Lab × List CRow × Nat) (w : World) (e : Ending) (w' : World) : Prop := ∃ A c A2 c2, e = .returned (.tuple #[.agg #[.slice A q.1.length c, .slice A2 q.2.1.length c2], .int .i64 (q.2.2 : Int)]) ∧ RdL w' (.slice A q.1.length c) q.1 ∧ K.Rd w' (.slice A2 q.2.1.length c2) q.2.1 ∧ Below w.heap.size w w'
theorem CGet_is (v : Value) (l : List Nat) (w : World) (hv : Rd w v l) (hl : ∀ c ∈ l, c < 256) (hlen : l.length ≤ 140737488351232) (hT : Tabs w) :
    Calls Tryd.prog 10 #[v] w (CgOut KRw (getC l) w) := by
  obtain ⟨W0, hW0⟩ : ∃ W0, W0 = w.alloc (.cells #[.slice none 0 0, .slice none 0 0] 30) := ⟨_, rfl⟩
  have b0 : Below w.heap.size w W0 := by rw [hW0]; exact (Below.refl _ w).alloc (Nat.le_refl _) _
  have z0 : W0.heap.size = w.heap.size + 1 := by rw [hW0]; simp
  have x0 : W0.heap[w.heap.size]? = some (.cells #[.slice none 0 0, .slice none 0 0] 30 (0, 0)) := by rw [hW0]; exact heap_alloc_new w _
  have HN := New_any v l W0 (hv.below b0) (by omega)
  obtain ⟨A0, c0, rfl, _, _⟩ := hv
  obtain ⟨sn1, sm1, sk1⟩ := txtD_sub l 0
  have T1 := fun w1 B0 B g (d : DecAt w1 B0 B g l 0) => Text_dec B0 B g 0 l w1 d hl (by omega)

  have hsx := fun c h => hl c (txtD_mem l 0 c h)
  have HGL : Hid (gLabs l = (readS (txtD l 0).1).1) := hid rfl
  have HGR : Hid (gRows l = readR (txtD l 0).2.1 (txtD l 0).2.2) := hid rfl
  have HGO : Hid (gOk l = (decide ((readS (txtD l 0).1).2 = 0 ∧ doneD (gRows l).l (gRows l).er = 0) && chR (gLabs l) (gRows l).rows)) := hid rfl
  have RR := fun w1 B0 B g (d : DecAt w1 B0 B g (txtD l 0).2.1 (txtD l 0).2.2) hB => readRows_is B0 B g (txtD l 0).2.2 (txtD l 0).2.1 w1 d hB (fun c hc => hl c (sn1 c hc)) (by omega)
  rw [← HGR.out] at RR
  have rs := readR_sub (txtD l 0).2.1 (txtD l 0).2.2
  rw [← HGR.out] at rs
  generalize (txtD l 0).1 = s1 at *
  generalize (txtD l 0).2.1 = l2 at *
  generalize (txtD l 0).2.2 = e2 at *
  have RD := fun v1 w1 (g : Rd w1 v1 s1) (t : Tabs w1) => LRead_own v1 s1 w1 g hsx (by omega) t
  unfold ReadOwn at RD
  have CV := fun w1 n hn => conv_sb2 (str s1) w1 n hn
  rw [nats_str s1 hsx, str_len] at CV
  obtain ⟨rs1, rs2⟩ := readS_sub s1
  rw [← HGL.out] at RD rs1 rs2
  generalize (readS s1).2 = le at *
  have HGC : Hid (getC l = if gOk l = true then (gLabs l, (gRows l).rows, 0) else ([], [], 21)) := hid rfl
  have DN := fun w1 B0 B g (d : DecAt w1 B0 B g (gRows l).l (gRows l).er) => Done_dec B0 B g (gRows l).er (gRows l).l w1 d
  unfold RrOut at RR
  generalize doneD (gRows l).l (gRows l).er = dn at *
  generalize (gRows l).l = l3 at *
  generalize (gRows l).er = e3 at *
  generalize (gRows l).rows = rows at *
  generalize gLabs l = labs at *
  have hz : ∀ x ∈ rows, entZ (entC labs x) := fun x hx => ⟨by unfold entC; simp only; omega, by unfold entC; simp only; have := rs.2.2.2 x hx; omega, fun y hy => by unfold entC at hy; have := rs2 y hy; omega⟩
  have hr3 := rs.2.2.1
  have CR := fun A A2 C C2 w1 (hL : RdL w1 (.slice A labs.length C) labs) (hR : KRw.Rd w1 (.slice A2 rows.length C2) rows) (hT : Tabs w1) => CRight_is labs rows A A2 C C2 w1 hL hR hT hz (by omega)
  have HCR := hid CR
  have HDN := hid DN
  have HT0 := hid (hT.below b0)
  have HB0 := hid (And.intro b0 z0)
  have HX0 := hid x0
  have HLB : Hid (labs.length ≤ 16) := hid rs1
  clear rs rs1 rs2 hz CR DN hT b0 z0 x0 hl hlen hsx sn1 sm1 sk1 HGL HGR hr3
  rw [hW0] at HN
  go_enter Tryd.func10, Tryd.ntmps10
  go_upto_region 2 with (first
    | (go_at_call 36; refine HN.mono ?_; rintro e w1 ⟨g, rfl, hg, d1, b1⟩; clear HN; rw [← hW0] at hg d1 b1))
  clear hW0
  have D1 := T1 _ _ _ _ d1
  have HG1 := hid (And.intro hg b1)
  have hgl : g < w1.heap.size := by obtain ⟨_, _, _, h2, _⟩ := d1; exact h2.2
  have HGL := hid hgl
  clear hg b1 d1 T1 hgl
  go_upto_region 3 with (first
    | (go_at_call 38; refine D1.mono ?_; rintro e w2 ⟨rfl, d2, q2⟩; obtain ⟨cc, cv, crd, cb⟩ := CV w2 w2.heap.size rfl; have HD2 := hid d2; have b2 : Below W0.heap.size W0 w2 := HG1.out.2.grown q2 HG1.out.2.size (fun k hk => by cases hk; exact HG1.out.1); have HQ2 := hid q2; have Tc := HT0.out.below (b2.trans (cb.mono b2.size)); have RDc := RD _ _ crd Tc; have HCB := hid cb; have HB2 := hid b2; clear D1 d2 q2 CV RD crd Tc b2 cb)
    | (go_at_call 37; refine RDc.mono ?_; rintro e w3 ⟨u3, rfl, ru3, b3⟩; obtain ⟨A3, c3, rfl, -, -⟩ := id ru3.rd; have HB3 := hid (HCB.out.trans (b3.mono HCB.out.size)); have HR3 := hid (ru3.mono HCB.out.size); clear RDc cv b3 ru3))
  have d3 := (HD2.out.below (HB3.out.mono HQ2.out.size))
  have RR3 := RR w3 _ _ _ d3 (Nat.le_trans HQ2.out.size HB3.out.size)
  clear d3 RR
  go_upto_region 4 with (first
    | (go_at_call 39; refine RR3.mono ?_; rintro e w4 ⟨v4, rfl, o4, d4, q4⟩; obtain ⟨A4, c4, rfl, -⟩ := o4.rd.form; have HO4 := hid o4; have HD4 := hid d4; have HQ4 := hid q4; clear RR3 o4 d4 q4))
  have b24 : Below W0.heap.size W0 w4 := (HB2.out.trans (HB3.out.mono HB2.out.size)).grown HQ4.out (Nat.le_trans HB2.out.size HB3.out.size) (fun k hk => by cases hk; exact HG1.out.1)
  have L4 : OwnL w4 w2.heap.size (.slice A3 labs.length c3) labs := HR3.out.far HQ4.out (fun k hk e => by have h1 := (World.ownsRow.lt HR3.out k hk).1; have h2 := HGL.out; have h3 := HQ2.out.size; omega)
  obtain ⟨W5, hW5⟩ : ∃ W5, W5 = w4.alloc (.cells #[.slice A3 labs.length c3, .slice A4 rows.length c4] 30) := ⟨_, rfl⟩
  have b5 : Below w4.heap.size w4 W5 := by rw [hW5]; exact (Below.refl _ w4).alloc (Nat.le_refl _) _
  have x5 : W5.heap[w4.heap.size]? = some (.cells #[.slice A3 labs.length c3, .slice A4 rows.length c4] 30 (0, 0)) := by rw [hW5]; exact heap_alloc_new w4 _
  have b05 : Below W0.heap.size W0 W5 := b24.trans (b5.mono b24.size)
  have D5 := HDN.out W5 _ _ _ (HD4.out.below (b5.mono (by have := HQ2.out.size; have := HB3.out.size; have := HQ4.out.size; omega)))
  have C5 := HCR.out A3 A4 c3 c4 W5 (L4.below b5).rd (HO4.out.below b5).rd (HT0.out.below b05)
  have FA : Hid (∀ wx, Below W5.heap.size W5 wx → wx.heap[w4.heap.size]? = some (.cells #[.slice A3 labs.length c3, .slice A4 rows.length c4] 30 (0, 0)) ∧ wx.heap[w.heap.size]? = some (.cells #[.slice none 0 0, .slice none 0 0] 30 (0, 0)) ∧ Below w.heap.size w wx ∧ OwnL wx w2.heap.size (.slice A3 labs.length c3) labs ∧ KRw.Own wx w3.heap.size (.slice A4 rows.length c4) rows) := hid (fun wx bx => by
    have hb := b05.trans (bx.mono b05.size)
    exact ⟨(bx.block _ (row_lt x5)).trans x5, (hb.block _ (row_lt HX0.out)).trans HX0.out, HB0.out.1.trans (hb.mono HB0.out.1.size), (L4.below b5).below bx, (HO4.out.below b5).below bx⟩)
  have HSZ : Hid (w.heap.size < w2.heap.size ∧ w.heap.size < w3.heap.size) := hid (by have h1 := HB2.out.size; have h2 := HB0.out.2; have h3 := HB3.out.size; omega)
  clear b24 L4 b5 x5 b05
  rw [← hW5]
  clear hW5
  obtain ⟨y5, y0, -⟩ := FA.out W5 (Below.refl _ _)
  have e50 := held_cell (i := 0) y5 rfl
  have e51 := held_cell (i := 1) y5 rfl
  have f00 := held_frozen (i := 0) y0
  have f01 := held_frozen (i := 1) y0
  have p00 := held_cell (i := 0) y0 rfl
  have p01 := held_cell (i := 1) y0 rfl
  have Y0 := hid y0
  clear y5 y0
  have BAD : gOk l = false → Hid (getC l = ([], [], 21)) := fun h => hid (by rw [HGC.out, h]; rfl)
  have fin : ∀ (wx : World) (a b : Value), wx.heap[w.heap.size]? = some (.cells #[.slice none 0 0, .slice none 0 0] 30 (0, 0)) → ((wx.setCell ⟨w.heap.size, 0, none⟩ a).setCell ⟨w.heap.size, 1, none⟩ b).heap[w.heap.size]? = some (.cells #[a, b] 30 (0, 0)) := fun wx a b h => row_set (i := 1) (row_set (i := 0) h a) b
  by_cases hle : le = 0
  · subst hle
    by_cases hdn : dn = 0
    · subst hdn
      cases hr : chR labs rows
      · have HC := BAD (by rw [HGO.out, hr]; simp)
        rw [hr] at C5
        clear hr BAD
        go_wp2_with (first
          | (go_at_call 40; refine D5.mono ?_; rintro e w6 ⟨rfl, rfl⟩; clear D5)
          | (go_at_call 12; refine C5.mono ?_; rintro e w7 ⟨rfl, b7⟩; obtain ⟨-, y7, hb7, -⟩ := FA.out w7 b7; have g00 := held_frozen (i := 0) y7; have g01 := held_frozen (i := 1) y7; have q00 := held_cell (i := 0) y7 rfl; have q01 := held_cell (i := 1) y7 rfl; have Y7 := hid y7; have HB7 := hid hb7; clear C5 e50 e51 f00 f01 p00 p01 y7 hb7 b7))
        have kf := fin w7 (.slice none 0 0) (.slice none 0 0) Y7.out
        have r0 := held_cell (i := 0) kf rfl
        have r1 := held_cell (i := 1) kf rfl
        exact bodyPost_ret (v := .tuple #[.agg #[.slice none 0 0, .slice none 0 0], .int .i64 (21 : Int)]) (by simp [results, Tryd.results10, go_sem, r0, r1]) rfl (by rw [HC.out]; exact ⟨none, 0, none, 0, rfl, (OwnL.nil _ 0).rd, (Kd.Own.nil (K := KRw) _ 0).rd, (HB7.out.setCell (p := ⟨w.heap.size, 0, none⟩) (Nat.le_refl _) _).setCell (p := ⟨w.heap.size, 1, none⟩) (Nat.le_refl _) _⟩)
      · have HC : Hid (getC l = (labs, rows, 0)) := hid (by rw [HGC.out, HGO.out, hr]; rfl)
        rw [hr] at C5
        clear hr BAD
        go_wp2_with (first
          | (go_at_call 40; refine D5.mono ?_; rintro e w6 ⟨rfl, rfl⟩; clear D5)
          | (go_at_call 12; refine C5.mono ?_; rintro e w7 ⟨rfl, b7⟩; obtain ⟨x7, y7, hb7, ol7, or7⟩ := FA.out w7 b7; have g00 := held_frozen (i := 0) y7; have g01 := held_frozen (i := 1) y7; have q00 := held_cell (i := 0) y7 rfl; have q01 := held_cell (i := 1) y7 rfl; have t00 := held_cell (i := 0) x7 rfl; have t01 := held_cell (i := 1) x7 rfl; have Y7 := hid y7; have HB7 := hid hb7; have HOL := hid ol7; have HOR := hid or7; clear C5 e50 e51 f00 f01 p00 p01 y7 x7 hb7 ol7 or7 b7))
        have kf := fin w7 (.slice A3 labs.length c3) (.slice A4 rows.length c4) Y7.out
        have r0 := held_cell (i := 0) kf rfl
        have r1 := held_cell (i := 1) kf rfl
        have ol9 := OwnL.grown (OwnL.grown HOL.out (grown_set w7 w.heap.size 0 (.slice A3 labs.length c3)) HSZ.out.1) (grown_set _ w.heap.size 1 (.slice A4 rows.length c4)) HSZ.out.1
        have or9 := Kd.Own.far (Kd.Own.far HOR.out (grown_set w7 w.heap.size 0 (.slice A3 labs.length c3)) (fun k hk e => by have := (World.ownsRow.lt HOR.out k hk).1; have := HSZ.out.2; omega)) (grown_set _ w.heap.size 1 (.slice A4 rows.length c4)) (fun k hk e => by have := (World.ownsRow.lt HOR.out k hk).1; have := HSZ.out.2; omega)
        exact bodyPost_ret (v := .tuple #[.agg #[.slice A3 labs.length c3, .slice A4 rows.length c4], .int .i64 (0 : Int)]) (by simp [results, Tryd.results10, go_sem, r0, r1]) rfl (by rw [HC.out]; exact ⟨A3, c3, A4, c4, rfl, ol9.rd, or9.rd, (HB7.out.setCell (p := ⟨w.heap.size, 0, none⟩) (Nat.le_refl _) _).setCell (p := ⟨w.heap.size, 1, none⟩) (Nat.le_refl _) _⟩)
    · have HC := BAD (by rw [HGO.out]; simp [hdn])
      have hne : ((dn : Int) == 0) = false := by simp; omega
      have hne2 : ((dn : Int) != 0) = true := by rw [bne, hne]; rfl
      have HB5 := hid (FA.out W5 (Below.refl _ _)).2.2.1
      clear hdn BAD C5
      go_wp2_with (first
        | (go_at_call 40; refine D5.mono ?_; rintro e w6 ⟨rfl, rfl⟩; clear D5))
      have kf := fin W5 (.slice none 0 0) (.slice none 0 0) Y0.out
      have r0 := held_cell (i := 0) kf rfl
      have r1 := held_cell (i := 1) kf rfl
      exact bodyPost_ret (v := .tuple #[.agg #[.slice none 0 0, .slice none 0 0], .int .i64 (21 : Int)]) (by simp [results, Tryd.results10, go_sem, r0, r1]) rfl (by rw [HC.out]; exact ⟨none, 0, none, 0, rfl, (OwnL.nil _ 0).rd, (Kd.Own.nil (K := KRw) _ 0).rd, (HB5.out.setCell (p := ⟨w.heap.size, 0, none⟩) (Nat.le_refl _) _).setCell (p := ⟨w.heap.size, 1, none⟩) (Nat.le_refl _) _⟩)
  · have HC := BAD (by rw [HGO.out]; simp [hle])
    have hne : ((le : Int) == 0) = false := by simp; omega
    have hne2 : ((le : Int) != 0) = true := by rw [bne, hne]; rfl
    have HB5 := hid (FA.out W5 (Below.refl _ _)).2.2.1
    clear hle BAD C5 D5
    go_wp2_with fail
    have kf := fin W5 (.slice none 0 0) (.slice none 0 0) Y0.out
    have r0 := held_cell (i := 0) kf rfl
    have r1 := held_cell (i := 1) kf rfl
    exact bodyPost_ret (v := .tuple #[.agg #[.slice none 0 0, .slice none 0 0], .int .i64 (21 : Int)]) (by simp [results, Tryd.results10, go_sem, r0, r1]) rfl (by rw [HC.out]; exact ⟨none, 0, none, 0, rfl, (OwnL.nil _ 0).rd, (Kd.Own.nil (K := KRw) _ 0).rd, (HB5.out.setCell (p := ⟨w.heap.size, 0, none⟩) (Nat.le_refl _) _).setCell (p := ⟨w.heap.size, 1, none⟩) (Nat.le_refl _) _⟩)
end Go.Proofs.YtelabmcghahclaaDoor
end
