/-
  Entries, labels and rows of entries in memory; which of two entries comes first: record.Before and merge's comesFirst. Conditions: none but that the entries are entries.
-/
import Derived.Test.YtcffagfkpkfgbaaGRo
import Derived.Test.YtcffagfkpkfgbaaMgm
import Derived.Test.YtcffagfkpkfgbaaRows
namespace Go.Icz
open Go.RowKit
def KLab : Kd Lab where
  e := 65
  z := 2
  enc := fun x => [.string ⟨x.1.toArray⟩, .string ⟨x.2.toArray⟩]
  len := fun _ => rfl
  pos := by decide
  one := by
    intro x u hu
    simp only [List.mem_cons, List.not_mem_nil, or_false] at hu
    rcases hu with rfl | rfl <;> rfl
structure Ent where
  seq : Int
  time : Int
  labs : List Lab
  line : B8
/-- An entry, and where its labels lie. -/
abbrev EV := Ent × Option Addr × Nat
abbrev lbV (p : EV) : Value := .slice p.2.1 p.1.labs.length p.2.2
def entV (p : EV) : Value := .agg #[.int .i64 p.1.seq, .int .i64 p.1.time, .slice p.2.1 p.1.labs.length p.2.2, .string ⟨p.1.line.toArray⟩]
def KEnt : Kd EV where
  e := 34
  z := 4
  enc := fun p => [.int .i64 p.1.seq, .int .i64 p.1.time, .slice p.2.1 p.1.labs.length p.2.2, .string ⟨p.1.line.toArray⟩]
  len := fun _ => rfl
  pos := by decide
  one := by
    intro x u hu
    simp only [List.mem_cons, List.not_mem_nil, or_false] at hu
    rcases hu with rfl | rfl | rfl | rfl <;> rfl
def kyE (x : Ent) : Int × Int := (x.time, x.seq)
def kyV (p : EV) : Int × Int := kyE p.1
/-- What is left of a row: where it lies, its entries, its place. -/
structure HR where
  A : Option Addr
  c : Nat
  l : List EV
  p : Nat
def HR.v (r : HR) : Value := .slice r.A r.l.length r.c
def KRow : Kd HR where
  e := 58
  z := 2
  enc := fun r => [.slice r.A r.l.length r.c, .int .i64 (r.p : Int)]
  len := fun _ => rfl
  pos := by decide
  one := by
    intro x u hu
    simp only [List.mem_cons, List.not_mem_nil, or_false] at hu
    rcases hu with rfl | rfl <;> rfl
def ev0 : EV := (⟨0, 0, [], []⟩, none, 0)
def hdE (l : List EV) : EV := l.headD ev0
def hlt (nb : Bool) (a b : HR) : Bool := rlt kyV nb (hdE a.l, a.p) (hdE b.l, b.p)
theorem ord_hlt (nb : Bool) : Ordr (hlt nb) := ⟨fun _ _ h => (ord_rlt kyV nb).asym _ _ h, fun _ _ _ h1 h2 => (ord_rlt kyV nb).nt _ _ _ h1 h2⟩
def icmp (a b : Int) : Int := if a < b then -1 else if b < a then 1 else 0
def or2 (x y : Int) : Int := if x ≠ 0 then x else y
def cmpE (x y : Ent) : Int := or2 (icmp x.time y.time) (icmp x.seq y.seq)
theorem cmpE_bef (x y : EV) : decide (cmpE x.1 y.1 < 0) = bef kyV x y := by
  unfold cmpE or2 icmp bef kyV kyE
  simp only []
  by_cases h1 : x.1.time < y.1.time
  · simp [h1]
  · by_cases h2 : y.1.time < x.1.time
    · have h3 : ¬ x.1.time = y.1.time := by omega
      simp [h1, h2, h3]
    · have h3 : x.1.time = y.1.time := by omega
      by_cases h4 : x.1.seq < y.1.seq
      · simp [h3, h4]
      · by_cases h5 : y.1.seq < x.1.seq
        · simp [h3, h4, h5]
        · simp [h3, h4, h5]
end Go.Icz
namespace Go.Proofs.Ytcffagfkpkfgbaa
open Go.RowKit Go.Icz
theorem keep4 {w w1 : World} {k : Nat} {o : Obj} (h : w.heap[k]? = some o) (hb : Below w.heap.size w w1) : w1.heap[k]? = some o :=
  (hb.block k (Array.getElem?_eq_some_iff.1 h).1).trans h
set_option maxRecDepth 100000 in
theorem Or_is (r1 r2 : Int) (b : Nat) (w : World) (h0 : w.cell? ⟨b, 0, none⟩ = some (.int .i64 r1)) (h1 : w.cell? ⟨b, 1, none⟩ = some (.int .i64 r2)) :
    Calls Try.prog 34 #[.slice (some ⟨b, 0, none⟩) 2 2] w fun e w' => e = .returned (.int .i64 (or2 r1 r2)) ∧ w = w' := by
  go_enter Try.func34, Try.ntmps34
  go_wp2
  go_loopw [8] (fun iv wr => wr = w ∧ ((iv = .int .i64 0) ∨ (iv = .int .i64 1 ∧ r1 = 0) ∨ (iv = .int .i64 2 ∧ r1 = 0 ∧ r2 = 0))) (fun iv _ => 2 - (intOf iv).toNat)
  case atStart => exact ⟨rfl, .inl rfl⟩
  case round =>
    obtain ⟨rfl, h | ⟨h, e1⟩ | ⟨h, e1, e2⟩⟩ := hrel
    · subst h
      by_cases hr : r1 = 0
      · subst hr
        go_wp2
        go_roundw
        case rel => simp
        case measure => simp [intOf]
      · have hb : (r1 == 0) = false := by simpa using hr
        go_wp2
        go_ret
        exact ⟨by unfold or2; rw [if_pos hr]; rfl, rfl⟩
    · subst h e1
      by_cases hr : r2 = 0
      · subst hr
        go_wp2
        go_roundw
        case rel => simp
        case measure => simp [intOf]
      · have hb : (r2 == 0) = false := by simpa using hr
        go_wp2
        go_ret
        exact ⟨by unfold or2; rw [if_neg (by simp)]; rfl, rfl⟩
    · subst h e1 e2
      go_wp2
      go_ret
      exact ⟨rfl, rfl⟩
theorem undrew' {B : Nat} {w w' : World} (h : Below B w.drew w') : Below B w w' := ⟨h.os, h.tape, h.output, h.size, h.block⟩
theorem ints_new (w : World) (r1 r2 : Int) : (w.alloc (.cells #[.int .i64 r1, .int .i64 r2] 3)).cell? ⟨w.heap.size, 0, none⟩ = some (.int .i64 r1) ∧ (w.alloc (.cells #[.int .i64 r1, .int .i64 r2] 3)).cell? ⟨w.heap.size, 1, none⟩ = some (.int .i64 r2) :=
  ⟨held_cell (heap_alloc_new w (.cells #[.int .i64 r1, .int .i64 r2] 3)) rfl, held_cell (heap_alloc_new w (.cells #[.int .i64 r1, .int .i64 r2] 3)) rfl⟩
theorem NaN_is (a : Int) (w : World) : Calls Try.prog 36 #[.int .i64 a] w fun e w' => e = .returned (.bool false) ∧ w = w' := by
  go_enter Try.func36, Try.ntmps36
  go_wp2
  go_ret
  exact ⟨rfl, rfl⟩
theorem Compare_is (a b : Int) (w : World) : Calls Try.prog 35 #[.int .i64 a, .int .i64 b] w fun e w' => e = .returned (.int .i64 (icmp a b)) ∧ w = w' := by
  by_cases h1 : a < b
  · have H : Hid (icmp a b = -1) := hid (by unfold icmp; rw [if_pos h1])
    rw [H.out]
    go_enter Try.func35, Try.ntmps35
    go_wp2_with (go_at_call 36; refine (NaN_is _ _).mono ?_; rintro e w' ⟨rfl, rfl⟩)
    go_ret
    exact ⟨rfl, rfl⟩
  · by_cases h2 : b < a
    · have H : Hid (icmp a b = 1) := hid (by unfold icmp; rw [if_neg h1, if_pos h2])
      rw [H.out]
      go_enter Try.func35, Try.ntmps35
      go_wp2_with (go_at_call 36; refine (NaN_is _ _).mono ?_; rintro e w' ⟨rfl, rfl⟩)
      go_ret
      exact ⟨rfl, rfl⟩
    · have H : Hid (icmp a b = 0) := hid (by unfold icmp; rw [if_neg h1, if_neg h2])
      rw [H.out]
      go_enter Try.func35, Try.ntmps35
      go_wp2_with (go_at_call 36; refine (NaN_is _ _).mono ?_; rintro e w' ⟨rfl, rfl⟩)
      go_ret
      exact ⟨rfl, rfl⟩
theorem three_new (W : World) (o1 o2 o3 : Obj) : ((((W.alloc o1).alloc o2).alloc o3).heap[W.heap.size + 1]? = some o2) ∧ ((((W.alloc o1).alloc o2).alloc o3).heap[W.heap.size + 1 + 1]? = some o3) ∧ Below W.heap.size W (((W.alloc o1).alloc o2).alloc o3) := by
  have h2 := heap_alloc_new (W.alloc o1) o2
  have h3 := heap_alloc_new ((W.alloc o1).alloc o2) o3
  rw [World.size_alloc] at h2
  rw [World.size_alloc, World.size_alloc] at h3
  exact ⟨(Below.heap_alloc ((W.alloc o1).alloc o2) o3 (W.heap.size + 1) (by simp)).trans h2, h3, (((Below.refl _ W).alloc (Nat.le_refl _) _).alloc (by simp) _).alloc (by simp; omega) _⟩
set_option maxHeartbeats 2000000 in
set_option maxRecDepth 100000 in
theorem compare_is (x y : EV) (W : World) : Calls Try.prog 31 #[.agg #[], entV x, entV y] W fun e w' => e = .returned (.int .i64 (cmpE x.1 y.1)) ∧ Below W.heap.size W w' := by
  have e0 : Hid (cmpE x.1 y.1 = or2 (icmp x.1.time y.1.time) (icmp x.1.seq y.1.seq)) := hid rfl
  have hOr : ∀ (r1 r2 : Int) (w : World), Calls Try.prog 34 #[.slice (some ⟨w.heap.size, 0, none⟩) 2 2] (w.drew.alloc (.cells #[.int .i64 r1, .int .i64 r2] 3)) fun e w' => e = .returned (.int .i64 (or2 r1 r2)) ∧ w.drew.alloc (.cells #[.int .i64 r1, .int .i64 r2] 3) = w' := fun r1 r2 w => Or_is r1 r2 w.heap.size _ (ints_new w.drew r1 r2).1 (ints_new w.drew r1 r2).2
  unfold entV
  go_enter Try.func31, Try.ntmps31
  go_wp2
  have k := three_new W (.cells #[] 66) (.cells #[.int .i64 x.1.seq, .int .i64 x.1.time, .slice x.2.1 x.1.labs.length x.2.2, .string ⟨x.1.line.toArray⟩] 34) (.cells #[.int .i64 y.1.seq, .int .i64 y.1.time, .slice y.2.1 y.1.labs.length y.2.2, .string ⟨y.1.line.toArray⟩] 34)
  generalize ((W.alloc (.cells #[] 66)).alloc (.cells #[.int .i64 x.1.seq, .int .i64 x.1.time, .slice x.2.1 x.1.labs.length x.2.2, .string ⟨x.1.line.toArray⟩] 34)).alloc (.cells #[.int .i64 y.1.seq, .int .i64 y.1.time, .slice y.2.1 y.1.labs.length y.2.2, .string ⟨y.1.line.toArray⟩] 34) = W3 at *
  obtain ⟨k1, k2, kb⟩ := k
  have mkS : ∀ w', Below W3.heap.size W3 w' → Below W3.heap.size W3 w' ∧ w'.cell? ⟨W.heap.size + 1, 0, none⟩ = some (.int .i64 x.1.seq) ∧ w'.cell? ⟨W.heap.size + 1, 1, none⟩ = some (.int .i64 x.1.time) ∧ w'.cell? ⟨W.heap.size + 1 + 1, 0, none⟩ = some (.int .i64 y.1.seq) ∧ w'.cell? ⟨W.heap.size + 1 + 1, 1, none⟩ = some (.int .i64 y.1.time) := fun w' h =>
    ⟨h, held_cell (keep4 k1 h) rfl, held_cell (keep4 k1 h) rfl, held_cell (keep4 k2 h) rfl, held_cell (keep4 k2 h) rfl⟩
  have hk := mkS W3.drew (Below.refl _ _).drew
  clear k1 k2
  go_region_held3 (fun w' => Below W3.heap.size W3 w' ∧ w'.cell? ⟨W.heap.size + 1, 0, none⟩ = some (.int .i64 x.1.seq) ∧ w'.cell? ⟨W.heap.size + 1, 1, none⟩ = some (.int .i64 x.1.time) ∧ w'.cell? ⟨W.heap.size + 1 + 1, 0, none⟩ = some (.int .i64 y.1.seq) ∧ w'.cell? ⟨W.heap.size + 1 + 1, 1, none⟩ = some (.int .i64 y.1.time)) (first | exact hk | exact mkS _ (hk.1.alloc hk.1.size _))
    (first | (go_at_call 35; refine (Compare_is _ _ _).mono ?_; rintro e w1 ⟨rfl, rfl⟩) | (go_at_call 34; refine (hOr _ _ _).mono ?_; rintro e w3 ⟨rfl, rfl⟩))
  all_goals
    go_wp2
    go_ret
    exact ⟨by rw [e0.out]; rfl, kb.trans (((hk.1.alloc hk.1.size _)).mono kb.size)⟩
set_option maxHeartbeats 1000000 in
set_option maxRecDepth 100000 in
theorem Before_is (x y : EV) (W : World) : Calls Try.prog 26 #[entV x, entV y] W fun e w' => e = .returned (.bool (decide (cmpE x.1 y.1 < 0))) ∧ Below W.heap.size W w' := by
  have hC := fun w1 => compare_is x y w1
  generalize cmpE x.1 y.1 = r at *
  unfold entV at *
  go_enter Try.func26, Try.ntmps26
  go_wp2_with (go_at_call 31; refine (hC _).mono ?_; rintro e w1 ⟨rfl, b1⟩)
  go_ret
  exact ⟨rfl, (((((Below.refl _ W).alloc (Nat.le_refl _) _).alloc (by simp) _).alloc (by simp; omega) _)).trans (b1.mono (by simp; omega))⟩
theorem Before_bef (x y : EV) (W : World) : Calls Try.prog 26 #[entV x, entV y] W fun e w' => e = .returned (.bool (bef kyV x y)) ∧ Below W.heap.size W w' := by
  rw [← cmpE_bef]
  exact Before_is x y W
set_option maxHeartbeats 1000000 in
set_option maxRecDepth 100000 in
theorem first_is (x y : EV) (nb : Bool) (W : World) : Calls Try.prog 20 #[entV x, entV y, .bool nb] W fun e w' => e = .returned (.bool (frst kyV nb x y)) ∧ Below W.heap.size W w' := by
  have hC := fun w1 => Before_bef x y w1
  have hD := fun w1 => Before_bef y x w1
  have hb : ∀ o o2 w1, Below ((W.alloc o).alloc o2).heap.size ((W.alloc o).alloc o2) w1 → Below W.heap.size W w1 := fun o o2 w1 b1 => (((Below.refl _ W).alloc (Nat.le_refl _) _).alloc (by simp) _).trans (b1.mono (by simp; omega))
  unfold frst
  generalize bef kyV x y = r at *
  generalize bef kyV y x = s at *
  unfold entV at *
  cases nb
  · go_enter Try.func20, Try.ntmps20
    go_wp2_with (go_at_call 26; refine (hC _).mono ?_; rintro e w1 ⟨rfl, b1⟩)
    go_ret
    exact ⟨rfl, hb _ _ _ b1⟩
  · go_enter Try.func20, Try.ntmps20
    go_wp2_with (go_at_call 26; refine (hD _).mono ?_; rintro e w1 ⟨rfl, b1⟩)
    go_ret
    exact ⟨rfl, hb _ _ _ b1⟩
end Go.Proofs.Ytcffagfkpkfgbaa
