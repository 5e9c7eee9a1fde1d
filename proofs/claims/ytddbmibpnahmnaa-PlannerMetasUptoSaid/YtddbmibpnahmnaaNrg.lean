/-
  What the reference's From and Get of a Meta answer. Condition: the bytes are bytes.
-/
import Derived.Test.YtddbmibpnahmnaaNge
namespace Go.Icz
open Go.RowKit
theorem below8 {B : Nat} {a w : World} {b : Nat} (h : Below B a w) (hb : B ≤ b) (u0 u1 u2 u3 u4 u5 u6 u7 : Value) : Below B a (((((((((w.setCell ⟨b, 0, none⟩ u0).setCell ⟨b, 1, none⟩ u1).setCell ⟨b, 2, none⟩ u2).setCell ⟨b, 3, none⟩ u3).setCell ⟨b, 4, none⟩ u4).setCell ⟨b, 5, none⟩ u5).setCell ⟨b, 6, none⟩ u6).setCell ⟨b, 7, none⟩ u7)) :=
  (((((((h.setCell (p := ⟨b, 0, none⟩) hb u0).setCell (p := ⟨b, 1, none⟩) hb u1).setCell (p := ⟨b, 2, none⟩) hb u2).setCell (p := ⟨b, 3, none⟩) hb u3).setCell (p := ⟨b, 4, none⟩) hb u4).setCell (p := ⟨b, 5, none⟩) hb u5).setCell (p := ⟨b, 6, none⟩) hb u6).setCell (p := ⟨b, 7, none⟩) hb u7
theorem row_far8 {w : World} {b c : Nat} {cs : Array Value} {t : TypeId} {z : Nat × Nat} (h : w.heap[b]? = some (.cells cs t z)) (hne : b ≠ c) (u0 u1 u2 u3 u4 u5 u6 u7 : Value) : (((((((((w.setCell ⟨c, 0, none⟩ u0).setCell ⟨c, 1, none⟩ u1).setCell ⟨c, 2, none⟩ u2).setCell ⟨c, 3, none⟩ u3).setCell ⟨c, 4, none⟩ u4).setCell ⟨c, 5, none⟩ u5).setCell ⟨c, 6, none⟩ u6).setCell ⟨c, 7, none⟩ u7)).heap[b]? = some (.cells cs t z) :=
  (put8_tch (b := c) u0 u1 u2 u3 u4 u5 u6 u7).row h hne
/-- Where the reference's decoder stands behind eight numbers. -/
theorem takeR (l : List Nat) (a er : Nat) : ∃ x1 x2 x3 x4 x5 x6 x7 x8 a1 a2 a3 a4 a5 a6 a7 a8 e1 e2 e3 e4 e5 e6 e7 e8,
    numR l a er = (x1, a1, e1) ∧ numR l a1 e1 = (x2, a2, e2) ∧ numR l a2 e2 = (x3, a3, e3) ∧ numR l a3 e3 = (x4, a4, e4) ∧ numR l a4 e4 = (x5, a5, e5) ∧ numR l a5 e5 = (x6, a6, e6) ∧ numR l a6 e6 = (x7, a7, e7) ∧ numR l a7 e7 = (x8, a8, e8) ∧
    takeN 8 (l.drop a) er = ([x1, x2, x3, x4, x5, x6, x7, x8], l.drop a8, e8) ∧
    (x1 < 72057594037927936 ∧ x2 < 72057594037927936 ∧ x3 < 72057594037927936 ∧ x4 < 72057594037927936 ∧ x5 < 72057594037927936 ∧ x6 < 72057594037927936 ∧ x7 < 72057594037927936 ∧ x8 < 72057594037927936) := by
  obtain ⟨⟨x1, a1, e1⟩, h1⟩ : ∃ r, numR l a er = r := ⟨_, rfl⟩
  obtain ⟨⟨x2, a2, e2⟩, h2⟩ : ∃ r, numR l a1 e1 = r := ⟨_, rfl⟩
  obtain ⟨⟨x3, a3, e3⟩, h3⟩ : ∃ r, numR l a2 e2 = r := ⟨_, rfl⟩
  obtain ⟨⟨x4, a4, e4⟩, h4⟩ : ∃ r, numR l a3 e3 = r := ⟨_, rfl⟩
  obtain ⟨⟨x5, a5, e5⟩, h5⟩ : ∃ r, numR l a4 e4 = r := ⟨_, rfl⟩
  obtain ⟨⟨x6, a6, e6⟩, h6⟩ : ∃ r, numR l a5 e5 = r := ⟨_, rfl⟩
  obtain ⟨⟨x7, a7, e7⟩, h7⟩ : ∃ r, numR l a6 e6 = r := ⟨_, rfl⟩
  obtain ⟨⟨x8, a8, e8⟩, h8⟩ : ∃ r, numR l a7 e7 = r := ⟨_, rfl⟩
  have d1 := numR_D l a er
  have d2 := numR_D l a1 e1
  have d3 := numR_D l a2 e2
  have d4 := numR_D l a3 e3
  have d5 := numR_D l a4 e4
  have d6 := numR_D l a5 e5
  have d7 := numR_D l a6 e6
  have d8 := numR_D l a7 e7
  rw [h1] at d1
  rw [h2] at d2
  rw [h3] at d3
  rw [h4] at d4
  rw [h5] at d5
  rw [h6] at d6
  rw [h7] at d7
  rw [h8] at d8
  have b1 := numD_lt (l.drop a) er
  have b2 := numD_lt (l.drop a1) e1
  have b3 := numD_lt (l.drop a2) e2
  have b4 := numD_lt (l.drop a3) e3
  have b5 := numD_lt (l.drop a4) e4
  have b6 := numD_lt (l.drop a5) e5
  have b7 := numD_lt (l.drop a6) e6
  have b8 := numD_lt (l.drop a7) e7
  rw [d1] at b1
  rw [d2] at b2
  rw [d3] at b3
  rw [d4] at b4
  rw [d5] at b5
  rw [d6] at b6
  rw [d7] at b7
  rw [d8] at b8
  refine ⟨x1, x2, x3, x4, x5, x6, x7, x8, a1, a2, a3, a4, a5, a6, a7, a8, e1, e2, e3, e4, e5, e6, e7, e8, h1, h2, h3, h4, h5, h6, h7, h8, ?_, b1, b2, b3, b4, b5, b6, b7, b8⟩
  simp only [takeN, d1, d2, d3, d4, d5, d6, d7, d8]
end Go.Icz
namespace Go.Proofs.Ytddbmibpnahmnaa
open Go.RowKit Go.Icz
set_option maxRecDepth 100000
set_option maxHeartbeats 8000000
theorem RFrom_is (B g er a : Nat) (l : List Nat) (w : World) (hd : RDec w B g l a er) (hB : B ≤ w.heap.size) (hl : ∀ c ∈ l, c < 256) (hlen : l.length ≤ 4611686018427387904) : Calls Try.prog 22 #[.pointer (some ⟨g, 0, none⟩)] w fun e w' => e = .returned (metaV (ofN (takeN 8 (l.drop a) er).1)) ∧ ∃ a8 e8, (takeN 8 (l.drop a) er).2 = (l.drop a8, e8) ∧ RDec w' B g l a8 e8 ∧ Tch (fun k => k = g) w w' := by
  have hgB : g < B := (by obtain ⟨_, _, _, hh, _⟩ := hd; exact hh)
  obtain ⟨x1, x2, x3, x4, x5, x6, x7, x8, a1, a2, a3, a4, a5, a6, a7, a8, e1, e2, e3, e4, e5, e6, e7, e8, h1, h2, h3, h4, h5, h6, h7, h8, TK, B1, B2, B3, B4, B5, B6, B7, B8⟩ := takeR l a er
  rw [TK]
  have W3 : IntKind.i64.wrap ((x2 : Int) + (x3 : Int)) = (x2 : Int) + (x3 : Int) := by rw [IntKind.wrap_i64]; omega
  have W5 : IntKind.i64.wrap ((x4 : Int) + (x5 : Int)) = (x4 : Int) + (x5 : Int) := by rw [IntKind.wrap_i64]; omega
  have N1 := fun w1 B g (d : RDec w1 B g l a er) => RNumber_dec B g er a l w1 d hl hlen
  rw [h1] at N1
  have N2 := fun w1 B g (d : RDec w1 B g l a1 e1) => RNumber_dec B g e1 a1 l w1 d hl hlen
  rw [h2] at N2
  have N3 := fun w1 B g (d : RDec w1 B g l a2 e2) => RNumber_dec B g e2 a2 l w1 d hl hlen
  rw [h3] at N3
  have N4 := fun w1 B g (d : RDec w1 B g l a3 e3) => RNumber_dec B g e3 a3 l w1 d hl hlen
  rw [h4] at N4
  have N5 := fun w1 B g (d : RDec w1 B g l a4 e4) => RNumber_dec B g e4 a4 l w1 d hl hlen
  rw [h5] at N5
  have N6 := fun w1 B g (d : RDec w1 B g l a5 e5) => RNumber_dec B g e5 a5 l w1 d hl hlen
  rw [h6] at N6
  have N7 := fun w1 B g (d : RDec w1 B g l a6 e6) => RNumber_dec B g e6 a6 l w1 d hl hlen
  rw [h7] at N7
  have N8 := fun w1 B g (d : RDec w1 B g l a7 e7) => RNumber_dec B g e7 a7 l w1 d hl hlen
  rw [h8] at N8
  have k0 := box_row w #[.int .i64 0, .int .i64 0, .int .i64 0, .int .i64 0, .int .i64 0, .int .i64 0, .int .i64 0, .int .i64 0] 32
  have b0 : Below w.heap.size w (w.alloc (.cells #[.int .i64 0, .int .i64 0, .int .i64 0, .int .i64 0, .int .i64 0, .int .i64 0, .int .i64 0, .int .i64 0] 32)) := (Below.refl _ w).alloc (Nat.le_refl _) _
  have d1 := hd.below ((Below.refl B w).alloc hB (.cells #[.int .i64 0, .int .i64 0, .int .i64 0, .int .i64 0, .int .i64 0, .int .i64 0, .int .i64 0, .int .i64 0] 32))
  have hgr : w.heap.size ≠ g := by omega
  have t0 : Tch (fun k => k = g) w (w.alloc (.cells #[.int .i64 0, .int .i64 0, .int .i64 0, .int .i64 0, .int .i64 0, .int .i64 0, .int .i64 0, .int .i64 0] 32)) := Tch.alloc _ _ _
  have HBh := hid hB
  clear hd TK h1 h2 h3 h4 h5 h6 h7 h8 B1 B2 B3 B4 B5 B6 B7 B8 b0
  have s0 : (w.alloc (.cells #[.int .i64 0, .int .i64 0, .int .i64 0, .int .i64 0, .int .i64 0, .int .i64 0, .int .i64 0, .int .i64 0] 32)).heap.size = w.heap.size + 1 := World.size_alloc _ _
  have t_new : ∀ {w1 : World} {b i : Nat}, Tch (fun k => k = g) w w1 → w.heap.size ≤ b → ∀ u, Tch (fun k => k = g) w (w1.setCell ⟨b, i, none⟩ u) := fun {w1 b i} t h u => Tch.out t (Tch.set (· = b) w1 ⟨b, i, none⟩ u rfl) (fun j hj => .inr (by rw [hj]; exact h))
  have t_new8 : ∀ {w1 : World} {b : Nat}, Tch (fun k => k = g) w w1 → w.heap.size ≤ b → ∀ u0 u1 u2 u3 u4 u5 u6 u7, Tch (fun k => k = g) w (((((((((w1.setCell ⟨b, 0, none⟩ u0).setCell ⟨b, 1, none⟩ u1).setCell ⟨b, 2, none⟩ u2).setCell ⟨b, 3, none⟩ u3).setCell ⟨b, 4, none⟩ u4).setCell ⟨b, 5, none⟩ u5).setCell ⟨b, 6, none⟩ u6).setCell ⟨b, 7, none⟩ u7)) := fun {w1 b} t h u0 u1 u2 u3 u4 u5 u6 u7 => Tch.out t (put8_tch (w := w1) (b := b) u0 u1 u2 u3 u4 u5 u6 u7) (fun j hj => .inr (by rw [hj]; exact h))
  go_enter Try.func22, Try.ntmps22
  go_wp2_with (first
    | (go_at_call 38; refine (N1 _ _ _ d1).mono ?_; rintro e v1 ⟨rfl, dq1, tg1⟩; have kb1 := grown_row tg1 k0 hgr; have sv := tg1.size; rw [s0] at sv; have hgm : v1.heap.size ≠ g := (by have := HBh.out; omega); have hmr : w.heap.size ≠ v1.heap.size := (by omega); have hBm : B ≤ v1.heap.size := (by have := HBh.out; omega); have hmw : w.heap.size ≤ v1.heap.size := (by omega); have km1 := heap_alloc_new v1 (.cells #[.int .i64 (x1 : Int), .int .i64 0, .int .i64 0, .int .i64 0, .int .i64 0, .int .i64 0, .int .i64 0, .int .i64 0] 32); have kr1 := row_alloc kb1 (.cells #[.int .i64 (x1 : Int), .int .i64 0, .int .i64 0, .int .i64 0, .int .i64 0, .int .i64 0, .int .i64 0, .int .i64 0] 32); have d2 := dq1.below ((Below.refl B v1).alloc hBm (.cells #[.int .i64 (x1 : Int), .int .i64 0, .int .i64 0, .int .i64 0, .int .i64 0, .int .i64 0, .int .i64 0, .int .i64 0] 32)); have t1 : Tch (fun k => k = g) w (v1.alloc (.cells #[.int .i64 (x1 : Int), .int .i64 0, .int .i64 0, .int .i64 0, .int .i64 0, .int .i64 0, .int .i64 0, .int .i64 0] 32)) := (t0.trans (Tch.grown (S := fun k => k = g) tg1 (fun k e => by injection e with e; exact e.symm))).trans (Tch.alloc _ _ _); clear N1)
    | (go_at_call 38; refine (N2 _ _ _ d2).mono ?_; rintro e v2 ⟨rfl, dq2, tg2⟩; have ka2 := grown_row tg2 km1 hgm; have kb2 := grown_row tg2 kr1 hgr; have fz2 := held_frozen (i := 1) ka2; have cl2 : v2.cell? ⟨v1.heap.size, 1, none⟩ = some (.int .i64 0) := held_cell (i := 1) ka2 rfl; have km2 : (v2.setCell ⟨v1.heap.size, 1, none⟩ (.int .i64 (x2 : Int))).heap[v1.heap.size]? = some (.cells #[.int .i64 (x1 : Int), .int .i64 (x2 : Int), .int .i64 0, .int .i64 0, .int .i64 0, .int .i64 0, .int .i64 0, .int .i64 0] 32 (0, 0)) := row_set ka2 _; have kr2 := row_far (i := 1) kb2 (.int .i64 (x2 : Int)) hmr; have d3 := dq2.below ((Below.refl B v2).setCell (p := ⟨v1.heap.size, 1, none⟩) hBm (.int .i64 (x2 : Int))); have t2 : Tch (fun k => k = g) w (v2.setCell ⟨v1.heap.size, 1, none⟩ (.int .i64 (x2 : Int))) := t_new (t1.trans (Tch.grown (S := fun k => k = g) tg2 (fun k e => by injection e with e; exact e.symm))) hmw (.int .i64 (x2 : Int));  clear N2))
  have hk : (v2.setCell ⟨v1.heap.size, 1, none⟩ (.int .i64 (x2 : Int))).drew.cell? ⟨v1.heap.size, 1, none⟩ = some (.int .i64 (x2 : Int)) := held_cell (i := 1) km2 rfl
  have d3d := d3.below ((Below.refl _ _).drew)
  clear cl2 fz2 ka2 kb2
  go_region_held3 (fun w' => w'.cell? ⟨v1.heap.size, 1, none⟩ = some (.int .i64 (x2 : Int))) (first | exact hk2 | exact hk) (first
    | (go_at_call 38; refine (N3 _ _ _ d3d).mono ?_; rintro e v3 ⟨rfl, dq3, tg3⟩; have ka3 := grown_row tg3 km2 hgm; have kb3 := grown_row tg3 kr2 hgr; have fz3 := held_frozen (i := 2) ka3; have cl3 : v3.cell? ⟨v1.heap.size, 2, none⟩ = some (.int .i64 0) := held_cell (i := 2) ka3 rfl; have km3 : (v3.setCell ⟨v1.heap.size, 2, none⟩ (.int .i64 ((x2 : Int) + (x3 : Int)))).heap[v1.heap.size]? = some (.cells #[.int .i64 (x1 : Int), .int .i64 (x2 : Int), .int .i64 ((x2 : Int) + (x3 : Int)), .int .i64 0, .int .i64 0, .int .i64 0, .int .i64 0, .int .i64 0] 32 (0, 0)) := row_set ka3 _; have kr3 := row_far (i := 2) kb3 (.int .i64 ((x2 : Int) + (x3 : Int))) hmr; have d4 := dq3.below ((Below.refl B v3).setCell (p := ⟨v1.heap.size, 2, none⟩) hBm (.int .i64 ((x2 : Int) + (x3 : Int)))); have t3 : Tch (fun k => k = g) w (v3.setCell ⟨v1.heap.size, 2, none⟩ (.int .i64 ((x2 : Int) + (x3 : Int)))) := t_new ((t2.trans (Tch.drew _ _)).trans (Tch.grown (S := fun k => k = g) tg3 (fun k e => by injection e with e; exact e.symm))) hmw (.int .i64 ((x2 : Int) + (x3 : Int))); have hk : v3.cell? ⟨v1.heap.size, 1, none⟩ = some (.int .i64 (x2 : Int)) := held_cell (i := 1) ka3 rfl; have hk2 : (v3.setCell ⟨v1.heap.size, 2, none⟩ (.int .i64 ((x2 : Int) + (x3 : Int)))).cell? ⟨v1.heap.size, 1, none⟩ = some (.int .i64 (x2 : Int)) := held_cell (i := 1) km3 rfl; clear N3))
  clear hk hk2
  go_wp2_with (first
    | (go_at_call 38; refine (N4 _ _ _ d4).mono ?_; rintro e v4 ⟨rfl, dq4, tg4⟩; have ka4 := grown_row tg4 km3 hgm; have kb4 := grown_row tg4 kr3 hgr; have fz4 := held_frozen (i := 3) ka4; have cl4 : v4.cell? ⟨v1.heap.size, 3, none⟩ = some (.int .i64 0) := held_cell (i := 3) ka4 rfl; have km4 : (v4.setCell ⟨v1.heap.size, 3, none⟩ (.int .i64 (x4 : Int))).heap[v1.heap.size]? = some (.cells #[.int .i64 (x1 : Int), .int .i64 (x2 : Int), .int .i64 ((x2 : Int) + (x3 : Int)), .int .i64 (x4 : Int), .int .i64 0, .int .i64 0, .int .i64 0, .int .i64 0] 32 (0, 0)) := row_set ka4 _; have kr4 := row_far (i := 3) kb4 (.int .i64 (x4 : Int)) hmr; have d5 := dq4.below ((Below.refl B v4).setCell (p := ⟨v1.heap.size, 3, none⟩) hBm (.int .i64 (x4 : Int))); have t4 : Tch (fun k => k = g) w (v4.setCell ⟨v1.heap.size, 3, none⟩ (.int .i64 (x4 : Int))) := t_new (t3.trans (Tch.grown (S := fun k => k = g) tg4 (fun k e => by injection e with e; exact e.symm))) hmw (.int .i64 (x4 : Int));  clear N4))
  have hk : (v4.setCell ⟨v1.heap.size, 3, none⟩ (.int .i64 (x4 : Int))).drew.cell? ⟨v1.heap.size, 3, none⟩ = some (.int .i64 (x4 : Int)) := held_cell (i := 3) km4 rfl
  have d5d := d5.below ((Below.refl _ _).drew)
  clear cl4 fz4 ka4 kb4
  go_region_held3 (fun w' => w'.cell? ⟨v1.heap.size, 3, none⟩ = some (.int .i64 (x4 : Int))) (first | exact hk2 | exact hk) (first
    | (go_at_call 38; refine (N5 _ _ _ d5d).mono ?_; rintro e v5 ⟨rfl, dq5, tg5⟩; have ka5 := grown_row tg5 km4 hgm; have kb5 := grown_row tg5 kr4 hgr; have fz5 := held_frozen (i := 4) ka5; have cl5 : v5.cell? ⟨v1.heap.size, 4, none⟩ = some (.int .i64 0) := held_cell (i := 4) ka5 rfl; have km5 : (v5.setCell ⟨v1.heap.size, 4, none⟩ (.int .i64 ((x4 : Int) + (x5 : Int)))).heap[v1.heap.size]? = some (.cells #[.int .i64 (x1 : Int), .int .i64 (x2 : Int), .int .i64 ((x2 : Int) + (x3 : Int)), .int .i64 (x4 : Int), .int .i64 ((x4 : Int) + (x5 : Int)), .int .i64 0, .int .i64 0, .int .i64 0] 32 (0, 0)) := row_set ka5 _; have kr5 := row_far (i := 4) kb5 (.int .i64 ((x4 : Int) + (x5 : Int))) hmr; have d6 := dq5.below ((Below.refl B v5).setCell (p := ⟨v1.heap.size, 4, none⟩) hBm (.int .i64 ((x4 : Int) + (x5 : Int)))); have t5 : Tch (fun k => k = g) w (v5.setCell ⟨v1.heap.size, 4, none⟩ (.int .i64 ((x4 : Int) + (x5 : Int)))) := t_new ((t4.trans (Tch.drew _ _)).trans (Tch.grown (S := fun k => k = g) tg5 (fun k e => by injection e with e; exact e.symm))) hmw (.int .i64 ((x4 : Int) + (x5 : Int))); have hk : v5.cell? ⟨v1.heap.size, 3, none⟩ = some (.int .i64 (x4 : Int)) := held_cell (i := 3) ka5 rfl; have hk2 : (v5.setCell ⟨v1.heap.size, 4, none⟩ (.int .i64 ((x4 : Int) + (x5 : Int)))).cell? ⟨v1.heap.size, 3, none⟩ = some (.int .i64 (x4 : Int)) := held_cell (i := 3) km5 rfl; clear N5))
  clear hk hk2
  clear km1 kr1 km2 kr2 km3 kr3 km4 kr4 d1 d2 d3 d4 d5 d3d d5d dq1 dq2 dq3 dq4 tg1 tg2 tg3 tg4 t0 t1 t2 t3 t4
  go_wp2_with (first
    | (go_at_call 38; refine (N6 _ _ _ d6).mono ?_; rintro e v6 ⟨rfl, dq6, tg6⟩; have ka6 := grown_row tg6 km5 hgm; have kb6 := grown_row tg6 kr5 hgr; have fz6 := held_frozen (i := 5) ka6; have cl6 : v6.cell? ⟨v1.heap.size, 5, none⟩ = some (.int .i64 0) := held_cell (i := 5) ka6 rfl; have km6 : (v6.setCell ⟨v1.heap.size, 5, none⟩ (.int .i64 (x6 : Int))).heap[v1.heap.size]? = some (.cells #[.int .i64 (x1 : Int), .int .i64 (x2 : Int), .int .i64 ((x2 : Int) + (x3 : Int)), .int .i64 (x4 : Int), .int .i64 ((x4 : Int) + (x5 : Int)), .int .i64 (x6 : Int), .int .i64 0, .int .i64 0] 32 (0, 0)) := row_set ka6 _; have kr6 := row_far (i := 5) kb6 (.int .i64 (x6 : Int)) hmr; have d7 := dq6.below ((Below.refl B v6).setCell (p := ⟨v1.heap.size, 5, none⟩) hBm (.int .i64 (x6 : Int))); have t6 : Tch (fun k => k = g) w (v6.setCell ⟨v1.heap.size, 5, none⟩ (.int .i64 (x6 : Int))) := t_new (t5.trans (Tch.grown (S := fun k => k = g) tg6 (fun k e => by injection e with e; exact e.symm))) hmw (.int .i64 (x6 : Int));  clear N6)
    | (go_at_call 38; refine (N7 _ _ _ d7).mono ?_; rintro e v7 ⟨rfl, dq7, tg7⟩; have ka7 := grown_row tg7 km6 hgm; have kb7 := grown_row tg7 kr6 hgr; have fz7 := held_frozen (i := 6) ka7; have cl7 : v7.cell? ⟨v1.heap.size, 6, none⟩ = some (.int .i64 0) := held_cell (i := 6) ka7 rfl; have km7 : (v7.setCell ⟨v1.heap.size, 6, none⟩ (.int .i64 (x7 : Int))).heap[v1.heap.size]? = some (.cells #[.int .i64 (x1 : Int), .int .i64 (x2 : Int), .int .i64 ((x2 : Int) + (x3 : Int)), .int .i64 (x4 : Int), .int .i64 ((x4 : Int) + (x5 : Int)), .int .i64 (x6 : Int), .int .i64 (x7 : Int), .int .i64 0] 32 (0, 0)) := row_set ka7 _; have kr7 := row_far (i := 6) kb7 (.int .i64 (x7 : Int)) hmr; have d8 := dq7.below ((Below.refl B v7).setCell (p := ⟨v1.heap.size, 6, none⟩) hBm (.int .i64 (x7 : Int))); have t7 : Tch (fun k => k = g) w (v7.setCell ⟨v1.heap.size, 6, none⟩ (.int .i64 (x7 : Int))) := t_new (t6.trans (Tch.grown (S := fun k => k = g) tg7 (fun k e => by injection e with e; exact e.symm))) hmw (.int .i64 (x7 : Int));  clear N7)
    | (go_at_call 38; refine (N8 _ _ _ d8).mono ?_; rintro e v8 ⟨rfl, dq8, tg8⟩; have ka8 := grown_row tg8 km7 hgm; have kb8 := grown_row tg8 kr7 hgr; have fz8 := held_frozen (i := 7) ka8; have cl8 : v8.cell? ⟨v1.heap.size, 7, none⟩ = some (.int .i64 0) := held_cell (i := 7) ka8 rfl; have km8 : (v8.setCell ⟨v1.heap.size, 7, none⟩ (.int .i64 (x8 : Int))).heap[v1.heap.size]? = some (.cells #[.int .i64 (x1 : Int), .int .i64 (x2 : Int), .int .i64 ((x2 : Int) + (x3 : Int)), .int .i64 (x4 : Int), .int .i64 ((x4 : Int) + (x5 : Int)), .int .i64 (x6 : Int), .int .i64 (x7 : Int), .int .i64 (x8 : Int)] 32 (0, 0)) := row_set ka8 _; have kr8 := row_far (i := 7) kb8 (.int .i64 (x8 : Int)) hmr; have d9 := dq8.below ((Below.refl B v8).setCell (p := ⟨v1.heap.size, 7, none⟩) hBm (.int .i64 (x8 : Int))); have t8 : Tch (fun k => k = g) w (v8.setCell ⟨v1.heap.size, 7, none⟩ (.int .i64 (x8 : Int))) := t_new (t7.trans (Tch.grown (S := fun k => k = g) tg8 (fun k e => by injection e with e; exact e.symm))) hmw (.int .i64 (x8 : Int));  clear N8; have mc0 := held_cell (i := 0) km8 rfl; have mf0 := held_frozen (i := 0) km8; have mc1 := held_cell (i := 1) km8 rfl; have mf1 := held_frozen (i := 1) km8; have mc2 := held_cell (i := 2) km8 rfl; have mf2 := held_frozen (i := 2) km8; have mc3 := held_cell (i := 3) km8 rfl; have mf3 := held_frozen (i := 3) km8; have mc4 := held_cell (i := 4) km8 rfl; have mf4 := held_frozen (i := 4) km8; have mc5 := held_cell (i := 5) km8 rfl; have mf5 := held_frozen (i := 5) km8; have mc6 := held_cell (i := 6) km8 rfl; have mf6 := held_frozen (i := 6) km8; have mc7 := held_cell (i := 7) km8 rfl; have mf7 := held_frozen (i := 7) km8; have pc0 := held_cell (i := 0) kr8 rfl; have pf0 := held_frozen (i := 0) kr8; have pc1 := held_cell (i := 1) kr8 rfl; have pf1 := held_frozen (i := 1) kr8; have pc2 := held_cell (i := 2) kr8 rfl; have pf2 := held_frozen (i := 2) kr8; have pc3 := held_cell (i := 3) kr8 rfl; have pf3 := held_frozen (i := 3) kr8; have pc4 := held_cell (i := 4) kr8 rfl; have pf4 := held_frozen (i := 4) kr8; have pc5 := held_cell (i := 5) kr8 rfl; have pf5 := held_frozen (i := 5) kr8; have pc6 := held_cell (i := 6) kr8 rfl; have pf6 := held_frozen (i := 6) kr8; have pc7 := held_cell (i := 7) kr8 rfl; have pf7 := held_frozen (i := 7) kr8))
  have rr := put8_row kr8 (.int .i64 (x1 : Int)) (.int .i64 (x2 : Int)) (.int .i64 ((x2 : Int) + (x3 : Int))) (.int .i64 (x4 : Int)) (.int .i64 ((x4 : Int) + (x5 : Int))) (.int .i64 (x6 : Int)) (.int .i64 (x7 : Int)) (.int .i64 (x8 : Int))
  clear pc0 pf0 pc1 pf1 pc2 pf2 pc3 pf3 pc4 pf4 pc5 pf5 pc6 pf6 pc7 pf7
  clear mc0 mf0 mc1 mf1 mc2 mf2 mc3 mf3 mc4 mf4 mc5 mf5 mc6 mf6 mc7 mf7
  have ec0 := held_cell (i := 0) rr rfl
  have ef0 := held_frozen (i := 0) rr
  have ec1 := held_cell (i := 1) rr rfl
  have ef1 := held_frozen (i := 1) rr
  have ec2 := held_cell (i := 2) rr rfl
  have ef2 := held_frozen (i := 2) rr
  have ec3 := held_cell (i := 3) rr rfl
  have ef3 := held_frozen (i := 3) rr
  have ec4 := held_cell (i := 4) rr rfl
  have ef4 := held_frozen (i := 4) rr
  have ec5 := held_cell (i := 5) rr rfl
  have ef5 := held_frozen (i := 5) rr
  have ec6 := held_cell (i := 6) rr rfl
  have ef6 := held_frozen (i := 6) rr
  have ec7 := held_cell (i := 7) rr rfl
  have ef7 := held_frozen (i := 7) rr
  have dF := d9.below (below8 (b := w.heap.size) (Below.refl B _) HBh.out (.int .i64 (x1 : Int)) (.int .i64 (x2 : Int)) (.int .i64 ((x2 : Int) + (x3 : Int))) (.int .i64 (x4 : Int)) (.int .i64 ((x4 : Int) + (x5 : Int))) (.int .i64 (x6 : Int)) (.int .i64 (x7 : Int)) (.int .i64 (x8 : Int)))
  exact bodyPost_ret (v := .agg #[.int .i64 (x1 : Int), .int .i64 (x2 : Int), .int .i64 ((x2 : Int) + (x3 : Int)), .int .i64 (x4 : Int), .int .i64 ((x4 : Int) + (x5 : Int)), .int .i64 (x6 : Int), .int .i64 (x7 : Int), .int .i64 (x8 : Int)]) (by simp [results, Try.results22, go_sem, ec0, ec1, ec2, ec3, ec4, ec5, ec6, ec7]) rfl ⟨rfl, a8, e8, rfl, dF, t_new8 t8 (Nat.le_refl _) _ _ _ _ _ _ _ _⟩
end Go.Proofs.Ytddbmibpnahmnaa
