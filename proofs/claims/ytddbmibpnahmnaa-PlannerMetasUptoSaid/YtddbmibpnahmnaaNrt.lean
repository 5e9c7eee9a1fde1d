/-
  Metas in memory; which may be: both the program's and the reference's. No condition.
-/
import Derived.Test.YtddbmibpnahmnaaNm0
import Derived.Test.YtddbmibpnahmnaaRows
import Derived.Lib.MinMax
import Derived.Laws.StructEq
namespace Go.Icz
open Go.RowKit
def encM (x : MV) : List Value := [.int .i64 x.id, .int .i64 x.least, .int .i64 x.most, .int .i64 x.first, .int .i64 x.last, .int .i64 x.rows, .int .i64 x.bytes, .int .i64 x.level]
def metaV (x : MV) : Value := .agg #[.int .i64 x.id, .int .i64 x.least, .int .i64 x.most, .int .i64 x.first, .int .i64 x.last, .int .i64 x.rows, .int .i64 x.bytes, .int .i64 x.level]
theorem encM_one (x : MV) : ∀ u ∈ encM x, u.oneCell' = true := by
  intro u hu
  unfold encM at hu
  simp only [List.mem_cons, List.not_mem_nil, or_false] at hu
  rcases hu with rfl | rfl | rfl | rfl | rfl | rfl | rfl | rfl <;> rfl
/-- The program's Metas. -/
def KMet : Kd MV where
  e := 28
  z := 8
  enc := encM
  len := fun _ => rfl
  pos := by decide
  one := encM_one
/-- The reference's. -/
def KRm : Kd MV where
  e := 32
  z := 8
  enc := encM
  len := fun _ => rfl
  pos := by decide
  one := encM_one
def KInt : Kd Int where
  e := 3
  z := 1
  enc := fun x => [.int .i64 x]
  len := fun _ => rfl
  pos := by decide
  one := by
    intro x u hu
    simp only [List.mem_cons, List.not_mem_nil, or_false] at hu
    subst hu
    rfl
/-- The eight cells of a Meta from a place on. -/
structure Mc (w : World) (b o : Nat) (x : MV) : Prop where
  c0 : w.cell? ⟨b, o, none⟩ = some (.int .i64 x.id)
  c1 : w.cell? ⟨b, o + 1, none⟩ = some (.int .i64 x.least)
  c2 : w.cell? ⟨b, o + 2, none⟩ = some (.int .i64 x.most)
  c3 : w.cell? ⟨b, o + 3, none⟩ = some (.int .i64 x.first)
  c4 : w.cell? ⟨b, o + 4, none⟩ = some (.int .i64 x.last)
  c5 : w.cell? ⟨b, o + 5, none⟩ = some (.int .i64 x.rows)
  c6 : w.cell? ⟨b, o + 6, none⟩ = some (.int .i64 x.bytes)
  c7 : w.cell? ⟨b, o + 7, none⟩ = some (.int .i64 x.level)
theorem Mc.below {w w' : World} {b o : Nat} {x : MV} (h : Mc w b o x) (hb : Below w.heap.size w w') (hlt : b < w.heap.size) : Mc w' b o x :=
  have k := fun i => hb.cell (p := ⟨b, i, none⟩) hlt
  ⟨(k _).trans h.c0, (k _).trans h.c1, (k _).trans h.c2, (k _).trans h.c3, (k _).trans h.c4, (k _).trans h.c5, (k _).trans h.c6, (k _).trans h.c7⟩
theorem Mc.of_row {w : World} {b : Nat} {t : TypeId} {x : MV} (h : w.heap[b]? = some (.cells #[.int .i64 x.id, .int .i64 x.least, .int .i64 x.most, .int .i64 x.first, .int .i64 x.last, .int .i64 x.rows, .int .i64 x.bytes, .int .i64 x.level] t (0, 0))) : Mc w b 0 x :=
  ⟨held_cell h rfl, held_cell h rfl, held_cell h rfl, held_cell h rfl, held_cell h rfl, held_cell h rfl, held_cell h rfl, held_cell h rfl⟩
theorem met_at {K : Kd MV} (hz : K.z = 8) (he : K.enc = encM) {w : World} {A : Option Addr} {n c : Nat} {l : List MV} (h : K.Rd w (.slice A n c) l) {j : Nat} (hj : j < l.length) :
    ∃ b off, A = some ⟨b, off, none⟩ ∧ b < w.heap.size ∧ Mc w b (off + j * 8) l[j] := by
  obtain ⟨b, off, hA, hb, hc⟩ := h.at hj
  rw [hz, he] at hc
  exact ⟨b, off, hA, hb, by have := hc 0 _ (by omega) rfl; exact this, by have := hc 1 _ (by omega) rfl; exact this, by have := hc 2 _ (by omega) rfl; exact this, by have := hc 3 _ (by omega) rfl; exact this, by have := hc 4 _ (by omega) rfl; exact this, by have := hc 5 _ (by omega) rfl; exact this, by have := hc 6 _ (by omega) rfl; exact this, by have := hc 7 _ (by omega) rfl; exact this⟩
theorem Kd.Rd.met {w : World} {A : Option Addr} {n c : Nat} {l : List MV} (h : KMet.Rd w (.slice A n c) l) {j : Nat} (hj : j < l.length) : ∃ b off, A = some ⟨b, off, none⟩ ∧ b < w.heap.size ∧ Mc w b (off + j * 8) l[j] := met_at rfl rfl h hj
theorem Kd.Rd.rmt {w : World} {A : Option Addr} {n c : Nat} {l : List MV} (h : KRm.Rd w (.slice A n c) l) {j : Nat} (hj : j < l.length) : ∃ b off, A = some ⟨b, off, none⟩ ∧ b < w.heap.size ∧ Mc w b (off + j * 8) l[j] := met_at rfl rfl h hj
theorem box_row (W : World) (x : Array Value) (t : TypeId) : (W.alloc (.cells x t)).heap[W.heap.size]? = some (.cells x t (0, 0)) := heap_alloc_new W _
theorem below_alloc {B : Nat} {w w' : World} {o : Obj} (hB : B ≤ w.heap.size) (h : Below B (w.alloc o) w') : Below B w w' := ((Below.refl B w).alloc hB o).trans h
theorem below_box {B : Nat} {a w : World} (h : Below B a w) (hB : B ≤ w.heap.size) (o : Obj) : Below B a (w.alloc o) := h.alloc hB o
end Go.Icz
namespace Go.Proofs.Ytddbmibpnahmnaa
open Go.RowKit Go.Icz
theorem infoMet : (Try.prog.info? 28).map (fun i => (i.zero, i.size, i.bytes)) = some (some (metaV zeroM), 8, 64) := by kernel_rfl
theorem infoRm : (Try.prog.info? 32).map (fun i => (i.zero, i.size, i.bytes)) = some (some (metaV zeroM), 8, 64) := by kernel_rfl
theorem infoInt : (Try.prog.info? 3).map (fun i => (i.zero, i.size, i.bytes)) = some (some (.int .i64 0), 1, 8) := by kernel_rfl
theorem within_is (lo n hi : Int) (w : World) : Calls Try.prog 42 #[.int .i64 lo, .int .i64 n, .int .i64 hi] w fun e w' => e = .returned (.int .i64 (wthn lo n hi)) ∧ w' = w := by
  go_enter Try.func42, Try.ntmps42
  go_wp2
  go_ret
  exact ⟨rfl, rfl⟩
set_option maxRecDepth 100000 in
theorem Own_is (x : MV) (w : World) : Calls Try.prog 10 #[metaV x] w fun e w' => e = .returned (metaV x) ∧ Below w.heap.size w w' := by
  unfold metaV
  go_enter Try.func10, Try.ntmps10
  go_wp2
  exact bodyPost_ret (v := metaV x) (by simp [results, Try.results10, go_sem, metaV]) rfl ⟨rfl, ((Below.refl _ w).alloc (Nat.le_refl _) _).alloc (by simp) _⟩
set_option maxRecDepth 100000 in
theorem one_is (i : Int) (w : World) : Calls Try.prog 30 #[.int .i64 i] w fun e w' => e = .returned (metaV ⟨i, 1, 5, i, i, 1, 9, 0⟩) ∧ Below w.heap.size w w' := by
  unfold metaV
  go_enter Try.func30, Try.ntmps30
  go_wp2
  exact bodyPost_ret (v := metaV ⟨i, 1, 5, i, i, 1, 9, 0⟩) (by simp [results, Try.results30, go_sem, metaV]) rfl ⟨rfl, (Below.refl _ w).alloc (Nat.le_refl _) _⟩
theorem num_is (k : Int) (w : World) : Calls Try.prog 11 #[.int .i64 k] w fun e w' => e = .returned (.int .i64 k) ∧ w' = w := by
  go_enter Try.func11, Try.ntmps11
  go_wp2
  go_ret
  exact ⟨rfl, rfl⟩
set_option maxRecDepth 100000 in
set_option maxHeartbeats 2000000 in
theorem nearest_is (x : MV) (w : World) : Calls Try.prog 28 #[metaV x] w fun e w' => e = .returned (metaV (nearM x)) ∧ Below w.heap.size w w' := by
  unfold metaV nearM
  go_enter Try.func28, Try.ntmps28
  go_wp2_with (go_at_call 42; refine (within_is _ _ _ _).mono ?_; rintro e w' ⟨rfl, rfl⟩)
  exact bodyPost_ret (v := metaV (nearM x)) (by simp [results, Try.results28, go_sem, metaV, nearM]) rfl ⟨rfl, ((Below.refl _ w).alloc (Nat.le_refl _) _).alloc (by simp) _⟩
theorem eql_meta (x y : MV) (w : World) : (binOp .eql 28 (metaV x) (metaV y)).run Try.prog w = .ok (.bool (decide (x = y))) w := by
  have hu := Try.underlying28
  have hg : Try.prog.underlying 28 = some (.struct (Try.prog.fieldsOf 28)) := by unfold Program.fieldsOf; rw [hu]
  have e : decide (x = y) = (x.id == y.id && x.least == y.least && x.most == y.most && x.first == y.first && x.last == y.last && x.rows == y.rows && x.bytes == y.bytes && x.level == y.level) := by
    rw [Bool.eq_iff_iff]
    obtain ⟨⟩ := x
    obtain ⟨⟩ := y
    simp [and_assoc]
  rw [e]
  unfold metaV
  rw [run_eql_struct, run_equalIn_agg _ _ _ _ _ hg (by kernel_rfl)]
  simp only [Program.fieldsOf, hu, Op.eqFields]
  simp [go_sem]
  repeat' split
  all_goals simp_all
set_option maxRecDepth 100000 in
set_option maxHeartbeats 2000000 in
theorem Right_is (x : MV) (w : World) : Calls Try.prog 15 #[metaV x] w fun e w' => e = .returned (.bool (rightM x)) ∧ Below w.heap.size w w' := by
  have hN := nearest_is x
  have hq : ∀ w1, (binOp .eql 28 (metaV x) (metaV (nearM x))).run Try.prog w1 = .ok (.bool (rightM x)) w1 := fun w1 => by rw [eql_meta, near_right]
  have hr : ∀ w', Below (w.heap.size + 1) (w.alloc (.cells #[.int .i64 x.id, .int .i64 x.least, .int .i64 x.most, .int .i64 x.first, .int .i64 x.last, .int .i64 x.rows, .int .i64 x.bytes, .int .i64 x.level] 28)) w' → Mc w' w.heap.size 0 x := fun w' hb => (Mc.of_row (box_row w _ _)).below (by simpa using hb) (by simp)
  have hb1 : ∀ w' o, Below (w.heap.size + 1) (w.alloc o) w' → Below w.heap.size w w' := fun w' o hb => below_alloc (Nat.le_refl _) (hb.mono (by omega))
  generalize rightM x = r at *
  generalize nearM x = y at *
  unfold metaV at hN hq ⊢
  have mkS : ∀ w', Below (w.heap.size + 1) (w.alloc (.cells #[.int .i64 x.id, .int .i64 x.least, .int .i64 x.most, .int .i64 x.first, .int .i64 x.last, .int .i64 x.rows, .int .i64 x.bytes, .int .i64 x.level] 28)) w' → Below (w.heap.size + 1) (w.alloc (.cells #[.int .i64 x.id, .int .i64 x.least, .int .i64 x.most, .int .i64 x.first, .int .i64 x.last, .int .i64 x.rows, .int .i64 x.bytes, .int .i64 x.level] 28)) w' ∧ w'.cell? ⟨w.heap.size, 0, none⟩ = some (.int .i64 x.id) ∧ w'.cell? ⟨w.heap.size, 1, none⟩ = some (.int .i64 x.least) ∧ w'.cell? ⟨w.heap.size, 2, none⟩ = some (.int .i64 x.most) ∧ w'.cell? ⟨w.heap.size, 3, none⟩ = some (.int .i64 x.first) ∧ w'.cell? ⟨w.heap.size, 4, none⟩ = some (.int .i64 x.last) ∧ w'.cell? ⟨w.heap.size, 5, none⟩ = some (.int .i64 x.rows) ∧ w'.cell? ⟨w.heap.size, 6, none⟩ = some (.int .i64 x.bytes) ∧ w'.cell? ⟨w.heap.size, 7, none⟩ = some (.int .i64 x.level) := fun w' h => ⟨h, by simpa using (hr w' h).c0, by simpa using (hr w' h).c1, by simpa using (hr w' h).c2, by simpa using (hr w' h).c3, by simpa using (hr w' h).c4, by simpa using (hr w' h).c5, by simpa using (hr w' h).c6, by simpa using (hr w' h).c7⟩
  clear hr
  go_enter Try.func15, Try.ntmps15
  go_wp2_with fail
  have hk := mkS (w.alloc (.cells #[.int .i64 x.id, .int .i64 x.least, .int .i64 x.most, .int .i64 x.first, .int .i64 x.last, .int .i64 x.rows, .int .i64 x.bytes, .int .i64 x.level] 28)).drew (Below.refl _ _).drew
  have hz : (w.alloc (.cells #[.int .i64 x.id, .int .i64 x.least, .int .i64 x.most, .int .i64 x.first, .int .i64 x.last, .int .i64 x.rows, .int .i64 x.bytes, .int .i64 x.level] 28)).heap.size = w.heap.size + 1 := by simp
  have hb2 := fun w' => hb1 w' (.cells #[.int .i64 x.id, .int .i64 x.least, .int .i64 x.most, .int .i64 x.first, .int .i64 x.last, .int .i64 x.rows, .int .i64 x.bytes, .int .i64 x.level] 28)
  generalize w.alloc (.cells #[.int .i64 x.id, .int .i64 x.least, .int .i64 x.most, .int .i64 x.first, .int .i64 x.last, .int .i64 x.rows, .int .i64 x.bytes, .int .i64 x.level] 28) = w1 at *
  go_region_held3 (fun w' => Below (w.heap.size + 1) w1 w' ∧ w'.cell? ⟨w.heap.size, 0, none⟩ = some (.int .i64 x.id) ∧ w'.cell? ⟨w.heap.size, 1, none⟩ = some (.int .i64 x.least) ∧ w'.cell? ⟨w.heap.size, 2, none⟩ = some (.int .i64 x.most) ∧ w'.cell? ⟨w.heap.size, 3, none⟩ = some (.int .i64 x.first) ∧ w'.cell? ⟨w.heap.size, 4, none⟩ = some (.int .i64 x.last) ∧ w'.cell? ⟨w.heap.size, 5, none⟩ = some (.int .i64 x.rows) ∧ w'.cell? ⟨w.heap.size, 6, none⟩ = some (.int .i64 x.bytes) ∧ w'.cell? ⟨w.heap.size, 7, none⟩ = some (.int .i64 x.level)) (exact hk)
    (first | (go_at_call 28; refine (hN _).mono ?_; rintro e w2 ⟨rfl, b2⟩; have hk := mkS _ (hk.1.trans (b2.mono (by have := hk.1.size; omega)))))
  go_wp2
  go_ret
  exact ⟨rfl, hb2 _ hk.1⟩
end Go.Proofs.Ytddbmibpnahmnaa
