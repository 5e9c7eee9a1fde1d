/-
  The reference's cache: a row of items; what New, find, Used, Peek, Keys answer. Conditions: those that each theorem names.
-/
import Derived.Test.YtflhgoecmcfkkaaCrow
import Derived.Test.YtflhgoecmcfkkaaCbndW
namespace Go.Icz
open Go.RowKit
/-- An item of the reference's. -/
structure RIt where
  key : ByteArray
  A : Option Addr
  c : Nat
  val : List Nat
def RIt.v (x : RIt) : Value := .slice x.A x.val.length x.c
theorem KR_one (x : RIt) : ∀ u ∈ [Value.string x.key, .slice x.A x.val.length x.c], u.oneCell' = true := by
  intro u hu
  simp only [List.mem_cons, List.not_mem_nil, or_false] at hu
  rcases hu with rfl | rfl <;> rfl
def KR : Kd RIt := { e := 76, z := 2, enc := fun x => [.string x.key, .slice x.A x.val.length x.c], len := fun _ => rfl, pos := by decide, one := KR_one }
theorem KR.at {w : World} {A : Option Addr} {n c : Nat} {l : List RIt} (h : KR.Rd w (.slice A n c) l) (h0 : 0 < l.length) : ∃ b off, A = some ⟨b, off, none⟩ ∧ b < w.heap.size ∧ ∀ j (hj : j < l.length), w.cell? ⟨b, off + j * 2, none⟩ = some (.string l[j].key) ∧ w.cell? ⟨b, off + j * 2 + 1, none⟩ = some (.slice l[j].A l[j].val.length l[j].c) := by
  obtain ⟨A', c', hv, hc, hr⟩ := h
  injection hv with e1 e2 e3
  subst e1 e2 e3
  obtain ⟨b, off, hA, hlt, hcell⟩ := hr h0
  refine ⟨b, off, hA, hlt, fun j hj => ⟨?_, ?_⟩⟩
  · refine hcell (j * 2) _ ?_
    have := Kd.cells_get KR l j hj 0 (by decide)
    exact this
  · rw [Nat.add_assoc]
    refine hcell (j * 2 + 1) _ ?_
    have := Kd.cells_get KR l j hj 1 (by decide)
    exact this
def rtot (l : List RIt) : Nat := (l.map fun x => x.key.size + x.val.length).sum
theorem rtot_app (xs ys : List RIt) : rtot (xs ++ ys) = rtot xs + rtot ys := by simp [rtot]
theorem rtot_take {l : List RIt} {j : Nat} (hj : j < l.length) : rtot (l.take (j + 1)) = rtot (l.take j) + (l[j].key.size + l[j].val.length) := by
  rw [← List.take_append_getElem hj, rtot_app]
  simp [rtot]
theorem rtot_take_le {l : List RIt} (j : Nat) : rtot (l.take j) ≤ rtot l := by
  have h := rtot_app (l.take j) (l.drop j)
  rw [List.take_append_drop] at h
  omega
end Go.Icz
namespace Go.Proofs.Ytflhgoecmcfkkaa
open Go.RowKit Go.Icz Go.Maps
/-- The reference's cache in block rq; its row is the slice v. -/
structure Rf (w : World) (B rq li : Nat) (hi mi : Int) (v : Value) (l : List RIt) : Prop where
  at_ : w.heap[rq]? = some (.cells #[.int .i64 li, .int .i64 hi, .int .i64 mi, v] 60 (0, 0))
  tl : KR.Tail w B v l
  vs : ∀ x ∈ l, Own w B x.v x.val
  lo : B ≤ rq
  le : rtot l ≤ 1048576
  ks : (l.map (·.key)).Nodup
theorem rkeys_len : ∀ l : List RIt, (l.map (·.key)).Nodup → l.length ≤ rtot l + 1 ∧ ((∀ e ∈ l, e.key ≠ ⟨#[]⟩) → l.length ≤ rtot l) := by
  intro l
  induction l with
  | nil => intro _; exact ⟨by simp, fun _ => by simp [rtot]⟩
  | cons e r ih =>
    intro hn
    rw [List.map_cons, List.nodup_cons] at hn
    obtain ⟨i1, i2⟩ := ih hn.2
    have hc : rtot (e :: r) = (e.key.size + e.val.length) + rtot r := rfl
    have pos : ∀ k : ByteArray, k ≠ ⟨#[]⟩ → 0 < k.size := by
      intro k hk
      rcases Nat.eq_zero_or_pos k.size with h0 | h0
      · exact absurd (ByteArray.ext (Array.eq_empty_of_size_eq_zero h0)) hk
      · exact h0
    constructor
    · by_cases he : e.key = ⟨#[]⟩
      · have := i2 (fun x hx hxe => hn.1 (List.mem_map.2 ⟨x, hx, by rw [hxe, he]⟩))
        rw [hc, List.length_cons]
        omega
      · have := pos e.key he
        rw [hc, List.length_cons]
        omega
    · intro ha
      have := i2 (fun x hx => ha x (List.mem_cons_of_mem _ hx))
      have := pos e.key (ha e (List.mem_cons_self ..))
      rw [hc, List.length_cons]
      omega
theorem Rf.len {w : World} {B rq li : Nat} {hi mi : Int} {v : Value} {l : List RIt} (h : Rf w B rq li hi mi v l) : l.length ≤ 1048577 := by
  have := (rkeys_len l h.ks).1
  have := h.le
  omega
def FootR (rq : Nat) (v : Value) (k : Nat) : Prop := k = rq ∨ v.ownBlock = some k
theorem Rf.touch {S : Nat → Prop} {w w' : World} {B rq li : Nat} {hi mi : Int} {v : Value} {l : List RIt} (h : Rf w B rq li hi mi v l) (k : Tch S w w') (hS : ∀ j, S j → ¬ FootR rq v j) (hB : NB S w) : Rf w' B rq li hi mi v l :=
  ⟨k.row h.at_ fun hs => hS _ hs (.inl rfl), h.tl.touch k.block fun b hb hs => hS b hs (.inr hb), fun x hx => (h.vs x hx).touch k hB, h.lo, h.le, h.ks⟩
theorem Rf.below {w w' : World} {B rq li : Nat} {hi mi : Int} {v : Value} {l : List RIt} (h : Rf w B rq li hi mi v l) (k : Below w.heap.size w w') : Rf w' B rq li hi mi v l :=
  h.touch (S := fun _ => False) (Tch.of_below k) (fun _ h => h.elim) (fun _ h => h.elim)
theorem Rf.lt {w : World} {B rq li : Nat} {hi mi : Int} {v : Value} {l : List RIt} (h : Rf w B rq li hi mi v l) : ∀ k, FootR rq v k → B ≤ k ∧ k < w.heap.size := by
  rintro k (rfl | hk)
  · exact ⟨h.lo, row_lt h.at_⟩
  · exact ⟨(h.tl.lt k hk).1, (h.tl.lt k hk).2.1⟩
theorem Rf.typ {w : World} {B rq li : Nat} {hi mi : Int} {v : Value} {l : List RIt} (h : Rf w B rq li hi mi v l) : ∀ k, FootR rq v k → ∃ cs t z, w.heap[k]? = some (.cells cs t z) ∧ (t = 60 ∨ t = 76) := by
  rintro k (rfl | hk)
  · exact ⟨_, _, _, h.at_, .inl rfl⟩
  · obtain ⟨_, _, cur, hc⟩ := h.tl.lt k hk
    exact ⟨_, _, _, hc, .inr rfl⟩
theorem Rf.nb {w : World} {B rq li : Nat} {hi mi : Int} {v : Value} {l : List RIt} (h : Rf w B rq li hi mi v l) : NB (FootR rq v) w := by
  intro j hj cur z hc
  obtain ⟨cs, t, z', h1, h2⟩ := h.typ j hj
  rw [hc] at h1
  injection h1 with h1
  injection h1 with _ h3 _
  rcases h2 with h2 | h2 <;> (rw [← h3] at h2; exact absurd h2 (by decide))
/-- The row's form. -/
theorem Rf.form {w : World} {B rq li : Nat} {hi mi : Int} {v : Value} {l : List RIt} (h : Rf w B rq li hi mi v l) : ∃ A c, v = .slice A l.length c := by
  obtain ⟨A, c, hv, _⟩ := h.tl.rd.form
  exact ⟨A, c, hv⟩
set_option maxRecDepth 100000 in
theorem R8New_no (li : Int) (w : World) (h : li < 1 ∨ 1048576 < li) : Calls Try.prog 8 #[.int .i64 li] w fun e w' => e = .returned (.pointer none) ∧ w' = w := by
  by_cases h1 : li < 1
  · have hd : decide (li < 1) = true := decide_eq_true h1
    clear h
    go_enter Try.func8, Try.ntmps8
    go_wp2
    go_ret
    exact ⟨rfl, rfl⟩
  · have h2 : 1048576 < li := by omega
    have hd : decide (li < 1) = false := decide_eq_false h1
    have hd2 : decide (1048576 < li) = true := decide_eq_true h2
    clear h
    go_enter Try.func8, Try.ntmps8
    go_wp2
    go_ret
    exact ⟨rfl, rfl⟩
set_option maxRecDepth 100000 in
theorem R8New_yes (li : Nat) (w : World) (h1 : 1 ≤ li) (h2 : li ≤ 1048576) : Calls Try.prog 8 #[.int .i64 li] w fun e w' => e = .returned (.pointer (some ⟨w.heap.size, 0, none⟩)) ∧ Rf w' w.heap.size w.heap.size li 0 0 (.slice none 0 0) [] ∧ Below w.heap.size w w' := by
  have hd : decide ((li : Int) < 1) = false := decide_eq_false (by omega)
  have hd2 : decide (1048576 < (li : Int)) = false := decide_eq_false (by omega)
  have fin : Rf (w.alloc (.cells #[.int .i64 li, .int .i64 0, .int .i64 0, .slice none 0 0] 60)) w.heap.size w.heap.size li 0 0 (.slice none 0 0) [] :=
    ⟨heap_alloc_new w _, .inl ⟨rfl, rfl⟩, by simp, Nat.le_refl _, by simp [rtot], by simp⟩
  go_enter Try.func8, Try.ntmps8
  go_wp2
  go_ret
  exact ⟨rfl, fin, (Below.refl _ w).alloc (Nat.le_refl _) _⟩
theorem below_drew0 (w : World) (k : Nat) : Below w.heap.size w (w.drewN k) := ⟨rfl, rfl, rfl, Nat.le_refl _, fun _ _ => rfl⟩
theorem str_eq (a : ByteArray) : (a.toList == a.toList) = true := by simp
set_option maxRecDepth 100000 in
theorem find_no {w : World} {B rq li : Nat} {hi mi : Int} {v : Value} {l : List RIt} (h : Rf w B rq li hi mi v l) (k : ByteArray) (hk : ∀ x ∈ l, x.key ≠ k) : Calls Try.prog 37 #[.pointer (some ⟨rq, 0, none⟩), .string k] w fun e w' => e = .returned (.int .i64 (-1)) ∧ w' = w := by
  obtain ⟨A, c, rfl⟩ := h.form
  have c3 : w.cell? ⟨rq, 3, none⟩ = some (.slice A l.length c) := held_cell h.at_ rfl
  have hat := KR.at h.tl.rd
  have hlen := h.len
  clear h
  go_enter Try.func37, Try.ntmps37
  go_wp2
  go_loopw [5] (fun iv wr => ∃ i : Nat, iv = .int .i64 i ∧ i ≤ l.length ∧ w = wr) (fun iv _ => l.length - (intOf iv).toNat)
  case atStart => exact ⟨0, rfl, Nat.zero_le _, rfl⟩
  case round =>
    obtain ⟨i, rfl, hi, rfl⟩ := hrel
    by_cases hlt : i < l.length
    · obtain ⟨b, off, hA, hbl, hcl⟩ := hat (by omega)
      subst hA
      have x1 := (hcl i hlt).1
      have hne := str_ne (hk _ (List.getElem_mem hlt))
      have hlI : (i : Int) < (l.length : Int) := by omega
      have hltA : Hid (i < l.length) := hid hlt
      generalize l[i].key = ki at *
      clear hcl
      go_wp2
      go_roundw
      case rel => exact ⟨i + 1, by go_num, by have := hltA.out; omega, trivial⟩
      case measure => have := hltA.out; simp [intOf]; omega
    · obtain rfl : i = l.length := by omega
      go_wp2
      go_ret
      exact ⟨rfl, rfl⟩
set_option maxRecDepth 100000 in
theorem find_yes {w : World} {B rq li : Nat} {hi mi : Int} {v : Value} {xs ys : List RIt} {x : RIt} (h : Rf w B rq li hi mi v (xs ++ x :: ys)) (hk : ∀ y ∈ xs, y.key ≠ x.key) : Calls Try.prog 37 #[.pointer (some ⟨rq, 0, none⟩), .string x.key] w fun e w' => e = .returned (.int .i64 xs.length) ∧ w' = w := by
  obtain ⟨A, c, rfl⟩ := h.form
  have c3 : w.cell? ⟨rq, 3, none⟩ = some (.slice A (xs ++ x :: ys).length c) := held_cell h.at_ rfl
  have hat := KR.at h.tl.rd
  have hlen := h.len
  have hll : (xs ++ x :: ys).length = xs.length + ys.length + 1 := by simp; omega
  obtain ⟨b, off, hA, hbl, hcl⟩ := hat (by omega)
  subst hA
  have hcx : ∀ i, i < xs.length → ∃ k', w.cell? ⟨b, off + i * 2, none⟩ = some (.string k') ∧ (k'.toList == x.key.toList) = false := fun i hi => by
    have h1 := (hcl i (by omega)).1
    rw [List.getElem_append_left hi] at h1
    exact ⟨_, h1, str_ne (hk _ (List.getElem_mem hi))⟩
  have hce : w.cell? ⟨b, off + xs.length * 2, none⟩ = some (.string x.key) := by
    have h1 := (hcl xs.length (by omega)).1
    rw [List.getElem_append_right (Nat.le_refl _)] at h1
    simpa using h1
  have heq := str_eq x.key
  rw [hll] at c3 hlen
  clear h hcl hat hk hll
  generalize x.key = k at *
  generalize hn : xs.length + ys.length + 1 = n at *
  have hxl : xs.length < n := by omega
  have hn2 := hid hn
  clear hn
  generalize xs.length = nx at *
  go_enter Try.func37, Try.ntmps37
  go_wp2
  go_loopw [5] (fun iv wr => ∃ i : Nat, iv = .int .i64 i ∧ i ≤ nx ∧ w = wr) (fun iv _ => nx - (intOf iv).toNat)
  case atStart => exact ⟨0, rfl, Nat.zero_le _, rfl⟩
  case round =>
    obtain ⟨i, rfl, hi, rfl⟩ := hrel
    have hlI : (i : Int) < (n : Int) := by omega
    by_cases hlt : i < nx
    · obtain ⟨ki, x1, hne⟩ := hcx i hlt
      have hltA : Hid (i < nx) := hid hlt
      clear hce hcx
      go_wp2
      go_roundw
      case rel => exact ⟨i + 1, by go_num, by have := hltA.out; omega, trivial⟩
      case measure => have := hltA.out; simp [intOf]; omega
    · obtain rfl : i = nx := by omega
      clear hcx
      go_wp2
      go_ret
      exact ⟨rfl, rfl⟩
set_option maxRecDepth 100000 in
theorem R8Used_is {w : World} {B rq li : Nat} {hi mi : Int} {v : Value} {l : List RIt} (h : Rf w B rq li hi mi v l) : Calls Try.prog 26 #[.pointer (some ⟨rq, 0, none⟩)] w fun e w' => e = .returned (.int .i64 (rtot l : Nat)) ∧ Below w.heap.size w w' := by
  obtain ⟨A, c, rfl⟩ := h.form
  have c3 : ∀ w', Below w.heap.size w w' → w'.cell? ⟨rq, 3, none⟩ = some (.slice A l.length c) := fun w' hb => held_cell (h.below hb).at_ rfl
  have hat := fun w' (hb : Below w.heap.size w w') => KR.at (h.below hb).tl.rd
  have hlen := h.len
  have hle := h.le
  clear h
  have c30 := c3 w (Below.refl _ _)
  go_enter Try.func26, Try.ntmps26
  go_wp2
  go_loopw [3, 4] (fun tv iv wr => ∃ i : Nat, iv = .int .i64 i ∧ i ≤ l.length ∧ tv = .int .i64 (rtot (l.take i) : Nat) ∧ Below w.heap.size w wr) (fun _ iv _ => l.length - (intOf iv).toNat)
  case atStart => exact ⟨0, rfl, Nat.zero_le _, rfl, Below.refl _ _⟩
  case round =>
    obtain ⟨i, rfl, hi, rfl, hb⟩ := hrel
    have d3 := c3 wr hb
    by_cases hlt : i < l.length
    · obtain ⟨b, off, hA, hbl, hcl⟩ := hat wr hb (by omega)
      subst hA
      obtain ⟨x1, x2⟩ := hcl i hlt
      have hlI : (i : Int) < (l.length : Int) := by omega
      have hltA : Hid (i < l.length) := hid hlt
      have htt := rtot_take hlt
      have htl := rtot_take_le (l := l) i
      have htl2 := rtot_take_le (l := l) (i + 1)
      obtain ⟨ta, hta⟩ : ∃ ta, rtot (l.take i) + l[i].key.size = ta := ⟨_, rfl⟩
      have w1 := wrap_add hta (by omega)
      have w2 := wrap_add (a := ta) (b := l[i].val.length) (c := rtot (l.take (i + 1))) (by omega) (by omega)
      clear hcl c3 hat c30 htt htl htl2 hta
      generalize hTb : rtot (l.take (i + 1)) = tb at *
      have hT := hid hTb
      clear hTb
      generalize rtot (l.take i) = ti at *
      generalize l[i] = x at *
      obtain ⟨kx, Ax, cx, vx⟩ := x
      dsimp only at x1 x2 w1 w2
      go_wp2
      go_quiet (fail)
      go_wp2
      go_roundw
      case rel => exact ⟨i + 1, by go_num, by have := hltA.out; omega, by rw [hT.out], hb.trans (Below.mono (below_drew0 _ _) hb.size)⟩
      case measure => have := hltA.out; simp [intOf]; omega
    · obtain rfl : i = l.length := by omega
      rw [List.take_length]
      go_wp2
      go_ret
      exact ⟨rfl, hb⟩
set_option maxRecDepth 100000 in
theorem R8Peek_no {w : World} {B rq li : Nat} {hi mi : Int} {v : Value} {l : List RIt} (h : Rf w B rq li hi mi v l) (k : ByteArray) (hk : ∀ x ∈ l, x.key ≠ k) : Calls Try.prog 24 #[.pointer (some ⟨rq, 0, none⟩), .string k] w fun e w' => e = .returned (.tuple #[.slice none 0 0, .bool false]) ∧ w' = w := by
  have hF := find_no h k hk
  clear h hk
  go_enter Try.func24, Try.ntmps24
  go_wp2_with (go_at_call 37; refine hF.mono ?_; rintro e w1 ⟨rfl, rfl⟩)
  go_ret2
  exact ⟨rfl, rfl⟩
set_option maxRecDepth 100000 in
theorem R8Peek_yes {w : World} {B rq li : Nat} {hi mi : Int} {v : Value} {xs ys : List RIt} {x : RIt} (h : Rf w B rq li hi mi v (xs ++ x :: ys)) (hk : ∀ y ∈ xs, y.key ≠ x.key) : Calls Try.prog 24 #[.pointer (some ⟨rq, 0, none⟩), .string x.key] w fun e w' => e = .returned (.tuple #[.slice x.A x.val.length x.c, .bool true]) ∧ w' = w := by
  have hF := find_yes h hk
  obtain ⟨A, c, rfl⟩ := h.form
  have c3 : w.cell? ⟨rq, 3, none⟩ = some (.slice A (xs ++ x :: ys).length c) := held_cell h.at_ rfl
  have hll : (xs ++ x :: ys).length = xs.length + ys.length + 1 := by simp; omega
  obtain ⟨b, off, hA, hbl, hcl⟩ := KR.at h.tl.rd (by omega)
  subst hA
  have hce : w.cell? ⟨b, off + xs.length * 2 + 1, none⟩ = some (.slice x.A x.val.length x.c) := by
    have h1 := (hcl xs.length (by omega)).2
    rw [List.getElem_append_right (Nat.le_refl _)] at h1
    simpa using h1
  rw [hll] at c3
  have hxI : (xs.length : Int) < ((xs.length + ys.length + 1 : Nat) : Int) := by omega
  clear h hcl hk hll
  generalize hn : xs.length + ys.length + 1 = n at *
  clear hn
  generalize xs.length = nx at *
  have hx0 : ((nx : Int) < 0) = False := eq_false (by omega)
  obtain ⟨kx, Ax, cx, vx⟩ := x
  dsimp only at hce hF ⊢
  go_enter Try.func24, Try.ntmps24
  go_wp2_with (go_at_call 37; refine hF.mono ?_; rintro e w1 ⟨rfl, rfl⟩)
  go_ret2
  exact ⟨rfl, rfl⟩
set_option maxRecDepth 100000 in
theorem R8Keys_is {w : World} {B rq li : Nat} {hi mi : Int} {v : Value} {l : List RIt} (h : Rf w B rq li hi mi v l) : Calls Try.prog 27 #[.pointer (some ⟨rq, 0, none⟩)] w fun e w' => ∃ u, e = .returned u ∧ KS.Own w' w.heap.size u (l.map (·.key)) ∧ Below w.heap.size w w' := by
  obtain ⟨A, c, rfl⟩ := h.form
  have c3 : ∀ w', Below w.heap.size w w' → w'.cell? ⟨rq, 3, none⟩ = some (.slice A l.length c) := fun w' hb => held_cell (h.below hb).at_ rfl
  have hat := fun w' (hb : Below w.heap.size w w') => KR.at (h.below hb).tl.rd
  have hlen := h.len
  clear h
  have c30 := c3 w (Below.refl _ _)
  go_enter Try.func27, Try.ntmps27
  go_wp2
  go_loopw [3, 4] (fun tv iv wr => ∃ i : Nat, iv = .int .i64 i ∧ i ≤ l.length ∧ Aside (KS.Own wr w.heap.size tv ((l.take i).map (·.key))) ∧ Below w.heap.size w wr) (fun _ iv _ => l.length - (intOf iv).toNat)
  case atStart => exact ⟨0, rfl, Nat.zero_le _, Kd.Own.nil _ _, Below.refl _ _⟩
  case round =>
    obtain ⟨i, rfl, hi, ho, hb⟩ := hrel
    have d3 := c3 wr hb
    by_cases hlt : i < l.length
    · obtain ⟨b, off, hA, hbl, hcl⟩ := hat wr hb (by omega)
      subst hA
      have x1 := (hcl i hlt).1
      have hlI : (i : Int) < (l.length : Int) := by omega
      have hltA : Hid (i < l.length) := hid hlt
      have htk : Hid ((l.take (i + 1)).map (·.key) = (l.take i).map (·.key) ++ [l[i].key]) := hid (by rw [← List.take_append_getElem hlt, List.map_append]; rfl)
      have hwz : w.heap.size ≤ wr.heap.size := hb.size
      have hml : ((l.take i).map (·.key)).length ≤ 1048577 := by rw [List.length_map, List.length_take]; omega
      clear hcl c3 hat c30
      generalize (l.take i).map (·.key) = ks at *
      generalize l[i].key = kx at *
      go_wp2_with (at_builtin; refine Kd.wp_app1 (K := KS) rfl (.tmp 14) (.tmp 23) 43 rfl Try.underlying43 infoStr rfl w.heap.size _ _ kx rfl ho.out rfl rfl rfl (by unfold maxLen; omega) (by omega) hwz ?_; intro v4 w4 o4 b4 g4 _; have b14 := hb.trans b4)
      go_roundw
      case rel => exact ⟨i + 1, by go_num, by have := hltA.out; omega, by show KS.Own _ _ _ _; rw [htk.out]; exact o4, b14⟩
      case measure => have := hltA.out; simp [intOf]; omega
    · obtain rfl : i = l.length := by omega
      rw [List.take_length] at ho
      go_wp2
      go_ret
      exact ⟨_, rfl, ho.out, hb⟩
end Go.Proofs.Ytflhgoecmcfkkaa
