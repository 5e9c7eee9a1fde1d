/-
  What the reference's decoder answers, of any bytes: what numD and txtD say. Conditions: the decoder was made by New; its bytes lie in a block of their own.
-/
import Derived.Test.YtelabmcghahclaaDoorDec
import Derived.Deep.QuietTactic
import Derived.BigQuiet
namespace Go.Icz
open Go.RowKit
/-- The reference's decoder: its three cells in block g below B; all its bytes l in another block; its place; its error. -/
def RDec (w : World) (B g : Nat) (l : List Nat) (a er : Nat) : Prop :=
  ∃ v b0, (0 < l.length → b0 < B ∧ b0 ≠ g) ∧ g < B ∧ g < w.heap.size ∧ a ≤ l.length ∧ w.cell? ⟨g, 0, none⟩ = some v ∧ w.cell? ⟨g, 1, none⟩ = some (.int .i64 (a : Int)) ∧ w.cell? ⟨g, 2, none⟩ = some (.int .i64 (er : Int)) ∧ w.frozen? ⟨g, 1, none⟩ = false ∧ w.frozen? ⟨g, 2, none⟩ = false ∧ RdAt w b0 v l
theorem RDec.below {w w' : World} {B g : Nat} {l : List Nat} {a er : Nat} (h : RDec w B g l a er) (hb : Below B w w') : RDec w' B g l a er := by
  obtain ⟨v, b0, h1, h2, h4, ha, c0, c1, c2, f1, f2, hd⟩ := h
  obtain ⟨A, c, rfl, hc, hr⟩ := hd
  refine ⟨_, b0, h1, h2, Nat.lt_of_lt_of_le h4 hb.size, ha, (hb.cell (p := ⟨g, 0, none⟩) h2).trans c0, (hb.cell (p := ⟨g, 1, none⟩) h2).trans c1, (hb.cell (p := ⟨g, 2, none⟩) h2).trans c2, (hb.frozen (p := ⟨g, 1, none⟩) h2).trans f1, (hb.frozen (p := ⟨g, 2, none⟩) h2).trans f2, A, c, rfl, hc, fun h0 => ?_⟩
  obtain ⟨off, rfl, g1, g2⟩ := hr h0
  exact ⟨off, rfl, Nat.lt_of_lt_of_le g1 hb.size, fun j hj => (hb.cell (p := ⟨b0, off + j, none⟩) (h1 h0).1).trans (g2 j hj)⟩
theorem RDec.mono {w : World} {B B' g : Nat} {l : List Nat} {a er : Nat} (h : RDec w B g l a er) (hB : B ≤ B') : RDec w B' g l a er := by
  obtain ⟨v, b0, h1, h2, h⟩ := h
  exact ⟨v, b0, fun h0 => ⟨by have := h1 h0; omega, (h1 h0).2⟩, by omega, h⟩
theorem RDec.setErr {w : World} {B g : Nat} {l : List Nat} {a er : Nat} (h : RDec w B g l a er) (e2 : Nat) : RDec (w.setCell ⟨g, 2, none⟩ (.int .i64 (e2 : Int))) B g l a e2 := by
  obtain ⟨v, b0, h1, h2, h4, ha, c0, c1, c2, f1, f2, hd⟩ := h
  refine ⟨v, b0, h1, h2, by simpa using h4, ha, ?_, ?_, World.cell?_setCell_same' w _ _ (by rw [c2]; rfl), by simpa using f1, by simpa using f2, hd.grown (grown_set w g 2 _) (fun h0 => by simpa using (h1 h0).2)⟩
  · rw [World.cell?_setCell_other _ _ _ _ (by simp)]; exact c0
  · rw [World.cell?_setCell_other _ _ _ _ (by simp)]; exact c1
theorem RDec.setAt {w : World} {B g : Nat} {l : List Nat} {a er : Nat} (h : RDec w B g l a er) (a2 : Nat) (ha2 : a2 ≤ l.length) : RDec (w.setCell ⟨g, 1, none⟩ (.int .i64 (a2 : Int))) B g l a2 er := by
  obtain ⟨v, b0, h1, h2, h4, ha, c0, c1, c2, f1, f2, hd⟩ := h
  refine ⟨v, b0, h1, h2, by simpa using h4, ha2, ?_, World.cell?_setCell_same' w _ _ (by rw [c1]; rfl), ?_, by simpa using f1, by simpa using f2, hd.grown (grown_set w g 1 _) (fun h0 => by simpa using (h1 h0).2)⟩
  · rw [World.cell?_setCell_other _ _ _ _ (by simp)]; exact c0
  · rw [World.cell?_setCell_other _ _ _ _ (by simp)]; exact c2
theorem grown_drewN (w : World) (n : Nat) (row : Option Nat) : w.grownBy (w.drewN n) row := ⟨rfl, rfl, rfl, Nat.le_refl _, fun _ _ _ => rfl⟩
theorem grownBy_trans {a b c : World} {row : Option Nat} (h : a.grownBy b row) (k : b.grownBy c row) : a.grownBy c row := World.grownBy.trans h k
def numR (l : List Nat) (a er : Nat) : Nat × Nat × Nat :=
  if er ≠ 0 then (0, a, er) else if (rdn (l.drop a)).2.2 ≠ 0 then (0, a, (rdn (l.drop a)).2.2) else ((rdn (l.drop a)).1, a + (rdn (l.drop a)).2.1, 0)
theorem numR_D (l : List Nat) (a er : Nat) : numD (l.drop a) er = ((numR l a er).1, l.drop (numR l a er).2.1, (numR l a er).2.2) := by
  unfold numD numR
  split
  · rfl
  · split
    · rfl
    · simp only [List.drop_drop]
def txtR (l : List Nat) (a er : Nat) : List Nat × Nat × Nat :=
  if er ≠ 0 then ([], a, er) else if (rdt (l.drop a)).2.2 ≠ 0 then ([], a, (rdt (l.drop a)).2.2) else ((rdt (l.drop a)).1, a + (rdt (l.drop a)).2.1, 0)
theorem txtR_D (l : List Nat) (a er : Nat) : txtD (l.drop a) er = ((txtR l a er).1, l.drop (txtR l a er).2.1, (txtR l a er).2.2) := by
  unfold txtD txtR
  split
  · rfl
  · split
    · rfl
    · simp only [List.drop_drop]
/-- What the reference's number answers at place p. -/
def numAt (l : List Nat) (p : Nat) : Nat × Nat × Nat := if (rdn (l.drop p)).2.2 = 0 then ((rdn (l.drop p)).1, p + (rdn (l.drop p)).2.1, 0) else (0, 0, (rdn (l.drop p)).2.2)
theorem numAt_of {l : List Nat} {p : Nat} {x s : Nat} (h : (x, s, 0) = rdn (l.drop p)) : numAt l p = (x, p + s, 0) := by simp [numAt, ← h]
theorem numAt_no {l : List Nat} {p : Nat} {er : Nat} (h : (0, 0, er) = rdn (l.drop p)) (he : er ≠ 0) : numAt l p = (0, 0, er) := by simp [numAt, ← h, he]
theorem rdGo_err : ∀ (l : List Nat) (i a : Nat), (rdGo l i a).2.2 ≠ 0 → (rdGo l i a).1 = 0 ∧ (rdGo l i a).2.1 = 0
  | [], _, _, _ => ⟨rfl, rfl⟩
  | c :: l, i, a, h => by
    unfold rdGo at h ⊢
    split
    · rename_i h1; rw [if_pos h1] at h; exact rdGo_err l _ _ h
    · rename_i h1
      rw [if_neg h1] at h
      split
      · exact ⟨rfl, rfl⟩
      · rename_i h2; rw [if_neg h2] at h; exact absurd rfl h
end Go.Icz
namespace Go.Proofs.YtelabmcghahclaaDoor
open Go.RowKit Go.Icz
theorem r_facts {x k a : Nat} (_hx : x < 256) (hk : k ≤ 7) (ha : a < 128 ^ k) :
    ∃ y a2 : Nat, wrap64 ((x : Int) % 128 * 2 ^ (7 * k)) = (y : Int) ∧ wrap64 ((a : Int) + (y : Int)) = (a2 : Int) ∧ a2 = a + x % 128 * 128 ^ k ∧ a2 < 128 ^ (k + 1) ∧ a2 < 72057594037927936 ∧ y < 72057594037927936 := by
  have hp : 128 ^ k ≤ 128 ^ 7 := Nat.pow_le_pow_right (by omega) hk
  have hm : x % 128 * 128 ^ k ≤ 127 * 128 ^ k := Nat.mul_le_mul_right _ (by omega)
  refine ⟨x % 128 * 128 ^ k, a + x % 128 * 128 ^ k, ?_, by unfold wrap64; omega, rfl, by rw [Nat.pow_succ]; omega, by omega, by omega⟩
  have e : (x : Int) % 128 * 2 ^ (7 * k) = ((x % 128 * 128 ^ k : Nat) : Int) := by
    rw [show (128 : Nat) ^ k = 2 ^ (7 * k) by rw [Nat.pow_mul]]
    simp
  rw [e]
  exact IntWalk.wrap64_in _ ⟨by omega, by omega⟩
set_option maxRecDepth 100000 in
set_option maxHeartbeats 400000 in
theorem rnumber_any (v : Value) (l : List Nat) (p : Nat) (w : World) (hv : Rd w v l) (hl : ∀ c ∈ l, c < 256) (hp : p ≤ l.length) (hlen : l.length ≤ 4611686018427387904) :
    Calls Tryd.prog 80 #[v, .int .i64 (p : Int)] w fun e w' => e = .returned (.tuple #[.int .i64 ((numAt l p).1 : Int), .int .i64 ((numAt l p).2.1 : Int), .int .i64 ((numAt l p).2.2 : Int)]) ∧ w = w' := by
  obtain ⟨A, c, rfl, hc, hcell⟩ := hv
  have HC := hid hcell
  have HL := hid hl
  clear hcell hl
  go_enter Tryd.func80, Tryd.ntmps80
  go_wp2
  go_loop [7, 8, 9] (fun x i _ => ∃ k a : Nat, i = .int .i64 k ∧ x = .int .i64 (a : Int) ∧ Hid ((k ≤ 7 ∧ p + k ≤ l.length ∧ a < 128 ^ k ∧ rdGo (l.drop (p + k)) k a = rdn (l.drop p)) ∨ (k = 8 ∧ rdn (l.drop p) = (0, 0, 21)))) (fun _ i _ => 8 - (intOf i).toNat)
  case atStart => exact ⟨0, 0, rfl, rfl, hid (.inl ⟨by omega, by omega, by decide, rfl⟩)⟩
  case round =>
    obtain ⟨k, a, rfl, rfl, HG⟩ := hrel
    rcases HG.out with ⟨hk7, hpk, ha, hg⟩ | ⟨rfl, hg⟩
    · clear HG
      by_cases hlt : p + k < l.length
      · obtain ⟨b, off, rfl, hb, hcl⟩ := HC.out (by omega)
        have hck := hcl (p + k) hlt
        clear hcl
        have hx := HL.out l[p + k] (List.getElem_mem hlt)
        rw [List.drop_eq_getElem_cons hlt] at hg
        generalize l[p + k] = x at *
        obtain ⟨y, a2, e1, e2, ha2, ha3, hb1, hb2⟩ := r_facts hx hk7 ha
        have HA := hid ha3
        have w1 : (7 : Int) * (k : Int) ≤ 49 := by omega
        by_cases hx1 : (x : Int) < 128
        · by_cases hx0 : x = 0 ∧ 0 < k
          · have HN := hid (numAt_no ((rdGo_bad (by omega) (.inr hx0)).symm.trans hg) (by decide))
            obtain ⟨rfl, hk0⟩ := hx0
            clear ha ha2 ha3 hg
            go_wp2
            go_ret3
            rw [HN.out]
            exact ⟨rfl, rfl⟩
          · have hg2 : (a2, k + 1, 0) = rdn (l.drop p) := by rw [← hg, rdGo_end (by omega) (by omega), ha2, Nat.mod_eq_of_lt (by omega)]
            have HN := hid (numAt_of hg2)
            clear ha ha2 ha3 hg hg2
            by_cases hx3 : x = 0
            · have hx4 : ((x : Int) == 0) = true := by rw [beq_iff_eq]; omega
              have hk0 : decide (0 < k) = false := decide_eq_false (by omega)
              have hk1 : ¬ 0 < k := by omega
              clear hx3
              go_wp2
              go_ret3
              rw [HN.out]
              exact ⟨by go_num, rfl⟩
            · have hx4 : ((x : Int) == 0) = false := by rw [beq_eq_false_iff_ne]; omega
              go_wp2
              go_ret3
              rw [HN.out]
              exact ⟨by go_num, rfl⟩
        · by_cases hk6 : k < 7
          · have hg2 : rdGo (l.drop (p + k + 1)) (k + 1) a2 = rdn (l.drop p) := by rw [← hg, rdGo_more (by omega) (by omega), ha2]
            have HG := hid (show (k + 1 ≤ 7 ∧ p + (k + 1) ≤ l.length ∧ a2 < 128 ^ (k + 1) ∧ rdGo (l.drop (p + (k + 1))) (k + 1) a2 = rdn (l.drop p)) ∨ (k + 1 = 8 ∧ rdn (l.drop p) = (0, 0, 21)) from .inl ⟨by omega, by omega, ha3, by rw [← Nat.add_assoc]; exact hg2⟩)
            clear ha ha2 ha3 hg hg2 HA
            go_wp2
            go_round
            case rel => exact ⟨k + 1, a2, by go_num, by first | rfl | rw [e2], HG⟩
            case measure => simp [intOf]; omega
          · have hk8 : k + 1 = 8 := by omega
            have HG := hid (show (k + 1 ≤ 7 ∧ p + (k + 1) ≤ l.length ∧ a2 < 128 ^ (k + 1) ∧ rdGo (l.drop (p + (k + 1))) (k + 1) a2 = rdn (l.drop p)) ∨ (k + 1 = 8 ∧ rdn (l.drop p) = (0, 0, 21)) from .inr ⟨hk8, by rw [← hg, rdGo_bad (by omega) (.inl (by omega))]⟩)
            clear ha ha2 ha3 hg HA hk8
            go_wp2
            go_round
            case rel => exact ⟨k + 1, a2, by go_num, by first | rfl | rw [e2], HG⟩
            case measure => simp [intOf]; omega
      · rw [List.drop_eq_nil_of_le (by omega)] at hg
        have HN := hid (numAt_no hg (by decide))
        have hge : (l.length : Int) ≤ (p : Int) + (k : Int) := by omega
        clear hg ha hlt
        go_wp2
        go_ret3
        rw [HN.out]
        exact ⟨rfl, rfl⟩
    · have HN := hid (numAt_no hg.symm (by decide))
      clear HG hg
      go_wp2
      go_ret3
      rw [HN.out]
      exact ⟨rfl, rfl⟩
/-- The reference's decoder in g has turned, and nothing else. -/
def RTook (w : World) (B g : Nat) (x : Value) (l : List Nat) (a er : Nat) (e : Ending) (w' : World) : Prop :=
  e = .returned x ∧ RDec w' B g l a er ∧ w.grownBy w' (some g)
set_option maxRecDepth 100000 in
set_option maxHeartbeats 400000 in
theorem RNumber_dec (B g er a : Nat) (l : List Nat) (w : World) (hd : RDec w B g l a er) (hl : ∀ c ∈ l, c < 256) (hlen : l.length ≤ 4611686018427387904) :
    Calls Tryd.prog 44 #[.pointer (some ⟨g, 0, none⟩)] w (RTook w B g (.int .i64 ((numR l a er).1 : Int)) l (numR l a er).2.1 (numR l a er).2.2) := by
  have hd0 := hd
  obtain ⟨v, b0, h1, h2, h4, ha, c0, c1, c2, f1, f2, hr⟩ := hd
  have HR := fun n => rnumber_any v l a (w.drewN n) (show Rd (w.drewN n) v l from hr.rd) hl ha hlen
  by_cases he : er = 0
  · subst he
    by_cases hn : (rdn (l.drop a)).2.2 = 0
    · have hs := rdn_size hn
      rw [List.length_drop] at hs
      have HN : Hid (numR l a 0 = ((rdn (l.drop a)).1, a + (rdn (l.drop a)).2.1, 0)) := hid (by simp [numR, hn])
      have HA : numAt l a = ((rdn (l.drop a)).1, a + (rdn (l.drop a)).2.1, 0) := by simp [numAt, hn]
      rw [HA] at HR
      rw [HN.out]
      have hat := fun n => (show RDec (w.drewN n) B g l a 0 from hd0).setAt (a + (rdn (l.drop a)).2.1) (by omega)
      generalize (rdn (l.drop a)).1 = x at *
      generalize (rdn (l.drop a)).2.1 = s at *
      clear hn hs HN HA hr
      go_enter Tryd.func44, Tryd.ntmps44
      go_wp2_with fail
      go_quiet ((go_at_call 80; exact Calls.quiet_of_same ((HR _).mono fun _ _ ⟨h, k⟩ => ⟨h, k.symm⟩)))
      go_wp2_with fail
      go_ret
      rw [← Int.natCast_add]
      exact ⟨rfl, hat nq, grownBy_trans (grown_drewN w nq (some g)) (grown_set _ _ _ _)⟩
    · have HN : Hid (numR l a 0 = (0, a, (rdn (l.drop a)).2.2)) := hid (by simp [numR, hn])
      have HA : numAt l a = (0, 0, (rdn (l.drop a)).2.2) := by simp [numAt, hn]
      rw [HA] at HR
      rw [HN.out]
      have hne : (((rdn (l.drop a)).2.2 : Int) == 0) = false := by simp; omega
      have hst := fun n => (show RDec (w.drewN n) B g l a 0 from hd0).setErr (rdn (l.drop a)).2.2
      generalize (rdn (l.drop a)).2.2 = er2 at *
      clear hn HN HA hr
      go_enter Tryd.func44, Tryd.ntmps44
      go_wp2_with fail
      go_quiet ((go_at_call 80; exact Calls.quiet_of_same ((HR _).mono fun _ _ ⟨h, k⟩ => ⟨h, k.symm⟩)))
      go_wp2_with fail
      go_ret
      exact ⟨rfl, hst nq, grownBy_trans (grown_drewN w nq (some g)) (grown_set _ _ _ _)⟩
  · have HN : Hid (numR l a er = (0, a, er)) := hid (by simp [numR, he])
    rw [HN.out]
    have hne : ((er : Int) == 0) = false := by simp; omega
    clear HN he HR hr
    go_enter Tryd.func44, Tryd.ntmps44
    go_wp2_with fail
    go_ret
    exact ⟨rfl, hd0, World.grownBy.refl _ _⟩
theorem RLeft_dec (B g er a : Nat) (l : List Nat) (w : World) (hd : RDec w B g l a er) (hlen : l.length ≤ 4611686018427387904) :
    Calls Tryd.prog 79 #[.pointer (some ⟨g, 0, none⟩)] w fun e w' => e = .returned (.int .i64 ((l.length : Int) - (a : Int))) ∧ ∃ n, w' = w.drewN n := by
  obtain ⟨v, b0, h1, h2, h4, ha, c0, c1, c2, f1, f2, A, c, rfl, hc, _⟩ := hd
  go_enter Tryd.func79, Tryd.ntmps79
  go_wp2_with fail
  go_quiet (fail)
  go_wp2_with fail
  go_ret
  exact ⟨rfl, nq, rfl⟩
theorem RDone_dec (B g er a : Nat) (l : List Nat) (w : World) (hd : RDec w B g l a er) (hlen : l.length ≤ 4611686018427387904) :
    Calls Tryd.prog 46 #[.pointer (some ⟨g, 0, none⟩)] w fun e w' => e = .returned (.int .i64 (doneD (l.drop a) er : Int)) ∧ ∃ n, w' = w.drewN n := by
  have HL := RLeft_dec B g er a l w hd hlen
  obtain ⟨v, b0, h1, h2, h4, ha, c0, c1, c2, f1, f2, A, c, rfl, hc, _⟩ := hd
  unfold doneD
  rw [List.length_drop]
  by_cases he : er = 0
  · subst he
    rw [if_neg (by omega)]
    by_cases hp : 0 < l.length - a
    · rw [if_pos hp]
      have hp' : (0 : Int) < (l.length : Int) - (a : Int) := by omega
      clear hp
      go_enter Tryd.func46, Tryd.ntmps46
      go_wp2_with (go_at_call 79; refine HL.mono ?_; rintro e w' ⟨rfl, n, rfl⟩)
      go_ret
      exact ⟨rfl, _, rfl⟩
    · rw [if_neg hp]
      have hp' : ¬ (0 : Int) < (l.length : Int) - (a : Int) := by omega
      clear hp
      go_enter Tryd.func46, Tryd.ntmps46
      go_wp2_with (go_at_call 79; refine HL.mono ?_; rintro e w' ⟨rfl, n, rfl⟩)
      go_ret
      exact ⟨rfl, _, rfl⟩
  · rw [if_pos he]
    have hne : ((er : Int) == 0) = false := by simp; omega
    clear he HL
    go_enter Tryd.func46, Tryd.ntmps46
    go_wp2_with fail
    go_ret
    exact ⟨rfl, 0, rfl⟩
theorem run_part2 (v : Value) {A : Option Addr} {n c : Nat} {lo hi : Int} {lo' hi' : Nat} (e1 : lo = (lo' : Int)) (e2 : hi = (hi' : Int)) (h1 : lo' ≤ hi') (h2 : hi' ≤ c) (_hv : v = .slice A n c) (wx : World) : (Instr.slice 26 (.slice A n c) (some (.int .i64 lo)) (some (.int .i64 hi)) none).run Tryd.prog wx = .ok (sliced A lo' hi' c 1) wx := by
  rw [e1, e2]
  exact run_partB h1 h2 wx
set_option maxRecDepth 100000 in
set_option maxHeartbeats 1000000 in
theorem RText_dec (B g er a : Nat) (l : List Nat) (w : World) (hd : RDec w B g l a er) (hl : ∀ c ∈ l, c < 256) (hlen : l.length ≤ 4611686018427387904) :
    Calls Tryd.prog 43 #[.pointer (some ⟨g, 0, none⟩)] w (RTook w B g (.string (str (txtR l a er).1)) l (txtR l a er).2.1 (txtR l a er).2.2) := by
  have HN := RNumber_dec B g er a l w hd hl hlen
  obtain ⟨v, b0, h1, h2, h4, ha, c0, c1, c2, f1, f2, hr⟩ := hd
  have HLf := fun w1 er1 a1 (h : RDec w1 B g l a1 er1) => RLeft_dec B g er1 a1 l w1 h hlen
  by_cases hbad : (numR l a er).2.2 ≠ 0
  · -- an error already, or in the number
    have HX : Hid (txtR l a er = ([], a, (numR l a er).2.2)) := hid (by
      unfold txtR numR at *
      by_cases he : er = 0
      · subst he
        by_cases hn : (rdn (l.drop a)).2.2 = 0
        · simp [hn] at hbad
        · simp [hn, rdt]
      · simp [he])
    rw [HX.out]
    have hat : (numR l a er).2.1 = a := by
      unfold numR at *
      by_cases he : er = 0
      · subst he
        by_cases hn : (rdn (l.drop a)).2.2 = 0
        · simp [hn] at hbad
        · simp [hn]
      · simp [he]
    rw [hat] at HN
    have hne : (((numR l a er).2.2 : Int) == 0) = false := by simp; omega
    generalize (numR l a er).2.2 = er2 at *
    generalize (numR l a er).1 = x at *
    clear HX hat hbad hr HLf
    go_enter Tryd.func43, Tryd.ntmps43
    go_wp2_with (go_at_call 44; refine HN.mono ?_; rintro e w1 ⟨rfl, d1, b1⟩; obtain ⟨v', b0', k1, k2, k4, ka, e0, e1, e2, g1, g2, kr⟩ := id d1; clear HN)
    go_ret
    exact ⟨rfl, d1.setAt a ha, grownBy_trans b1 (grown_set _ _ _ _)⟩
  · have he : er = 0 := Classical.byContradiction fun he => hbad (by simp [numR, he])
    subst he
    have hn : (rdn (l.drop a)).2.2 = 0 := Classical.byContradiction fun hn => hbad (by simp [numR, hn])
    have hs := rdn_size hn
    rw [List.length_drop] at hs
    have HA : numR l a 0 = ((rdn (l.drop a)).1, a + (rdn (l.drop a)).2.1, 0) := by simp [numR, hn]
    rw [HA] at HN
    simp only at HN
    by_cases hbig : 65536 < (rdn (l.drop a)).1
    · have HX : Hid (txtR l a 0 = ([], a, 21)) := hid (by simp [txtR, rdt, hn, hbig])
      rw [HX.out]
      have hbig' : (65536 : Int) < ((rdn (l.drop a)).1 : Int) := by omega
      generalize (rdn (l.drop a)).1 = x at *
      generalize (rdn (l.drop a)).2.1 = s at *
      clear HX HA hbad hr HLf hn hbig hs
      go_enter Tryd.func43, Tryd.ntmps43
      go_wp2_with (go_at_call 44; refine HN.mono ?_; rintro e w1 ⟨rfl, d1, b1⟩; obtain ⟨v', b0', k1, k2, k4, ka, e0, e1, e2, g1, g2, kr⟩ := id d1; clear HN)
      go_ret
      exact ⟨rfl, (d1.setErr 21).setAt a ha, grownBy_trans (grownBy_trans b1 (grown_set _ _ _ _)) (grown_set _ _ _ _)⟩
    · by_cases hend : l.length - a - (rdn (l.drop a)).2.1 < (rdn (l.drop a)).1
      · have HX : Hid (txtR l a 0 = ([], a, 20)) := hid (by simp [txtR, rdt, hn, hbig, hend])
        rw [HX.out]
        have hbig' : ¬ (65536 : Int) < ((rdn (l.drop a)).1 : Int) := by omega
        have hend' : (l.length : Int) - ((a + (rdn (l.drop a)).2.1 : Nat) : Int) < ((rdn (l.drop a)).1 : Int) := by omega
        generalize (rdn (l.drop a)).1 = x at *
        generalize (rdn (l.drop a)).2.1 = s at *
        generalize a + s = a1 at *
        clear HX HA hbad hr hn hbig hend hs
        go_enter Tryd.func43, Tryd.ntmps43
        go_wp2_with (first
          | (go_at_call 44; refine HN.mono ?_; rintro e w1 ⟨rfl, d1, b1⟩; obtain ⟨v', b0', k1, k2, k4, ka, e0, e1, e2, g1, g2, kr⟩ := id d1; clear HN)
          | (go_at_call 79; refine (HLf _ _ _ d1).mono ?_; rintro e w2 ⟨rfl, n, rfl⟩; clear HLf))
        go_ret
        have d2 : RDec (w1.drewN n) B g l a1 0 := d1
        exact ⟨rfl, (d2.setErr 20).setAt a ha, grownBy_trans (grownBy_trans (grownBy_trans b1 (grown_drewN _ _ _)) (grown_set _ _ _ _)) (grown_set _ _ _ _)⟩
      · have HX : Hid (txtR l a 0 = (((l.drop a).drop (rdn (l.drop a)).2.1).take (rdn (l.drop a)).1, a + (rdn (l.drop a)).2.1 + (rdn (l.drop a)).1, 0)) := hid (by simp [txtR, rdt, hn, hbig, hend, Nat.add_assoc])
        rw [HX.out, List.drop_drop]
        have hbig' : ¬ (65536 : Int) < ((rdn (l.drop a)).1 : Int) := by omega
        have hend' : ¬ (l.length : Int) - ((a + (rdn (l.drop a)).2.1 : Nat) : Int) < ((rdn (l.drop a)).1 : Int) := by omega
        have hle : a + (rdn (l.drop a)).2.1 + (rdn (l.drop a)).1 ≤ l.length := by omega
        generalize (rdn (l.drop a)).1 = x at *
        generalize (rdn (l.drop a)).2.1 = s at *
        generalize a + s = a1 at *
        clear HX HA hbad hr hn hbig hend hs
        have hsum : (a1 : Int) + (x : Int) ≤ 4611686018427387904 := by omega
        go_enter Tryd.func43, Tryd.ntmps43
        go_wp2_with (first
          | (go_at_call 44; refine HN.mono ?_; rintro e w1 ⟨rfl, d1, b1⟩; obtain ⟨v', b0', k1, k2, k4, ka, e0, e1, e2, g1, g2, kr⟩ := id d1; clear HN)
          | (go_at_call 79; refine (HLf _ _ _ d1).mono ?_; rintro e w2 ⟨rfl, n, rfl⟩; clear HLf))
        have d2 : RDec (w1.drewN n) B g l a1 0 := d1
        have d3 := d2.setAt (a1 + x) hle
        have g3 := grownBy_trans (grownBy_trans b1 (grown_drewN _ n _)) (grown_set (w1.drewN n) g 1 (.int .i64 ((a1 + x : Nat) : Int)))
        rw [Int.natCast_add] at d3 g3
        generalize (w1.drewN n).setCell ⟨g, 1, none⟩ (.int .i64 ((a1 : Int) + (x : Int))) = W3 at *
        obtain ⟨v3, b3, m1, m2, m4, ma, r0, r1, r2, q1, q2, mr⟩ := id d3
        obtain ⟨A, c, rfl, hc, _⟩ := id mr
        have hsl := mr.slice a1 (a1 + x) (by omega) hle
        rw [Nat.add_sub_cancel_left] at hsl
        have hrun := fun wx => run_partB (A := A) (n := l.length) (c := c) (lo := a1) (hi := a1 + x) (by omega) (by omega) wx
        have hcv := fun n => conv_rd std (show Rd (W3.drewN n) _ _ from hsl.rd)
        rw [Int.natCast_add] at hrun
        have z1 : IntKind.i64.wrap ((a1 : Int) + (x : Int) - (x : Int)) = (a1 : Int) := by rw [IntKind.wrap_i64]; omega
        have z2 : IntKind.i64.wrap (a1 : Int) = (a1 : Int) := by rw [IntKind.wrap_i64]; omega
        generalize (l.drop a1).take x = t at *
        generalize sliced A a1 (a1 + x) c 1 = v4 at *
        rw [Int.natCast_add] at r1
        clear e0 e1 e2 hsl mr kr d1 d2 b1
        go_quiet (fail)
        go_wp2_with fail
        go_ret
        exact ⟨rfl, show RDec (W3.drewN nq) B g l (a1 + x) 0 from d3, grownBy_trans g3 (grown_drewN _ _ _)⟩
theorem RNew_any (v : Value) (l : List Nat) (w : World) (hv : Rd w v l) (hlen : l.length ≤ 140737488351232) :
    Calls Tryd.prog 41 #[v] w fun e w' => ∃ g, e = .returned (.pointer (some ⟨g, 0, none⟩)) ∧ w.heap.size ≤ g ∧ RDec w' w'.heap.size g l 0 0 ∧ Below w.heap.size w w' := by
  have hv0 := hv
  obtain ⟨A, c, rfl, _, _⟩ := hv
  have HV := hid hv0
  clear hv0
  go_enter Tryd.func41, Tryd.ntmps41
  go_wp2_with (at_builtin; refine wp_appR std rfl (.tmp 3) (.tmp 4) rfl w.heap.size _ _ [] l rfl (Own.made w (Nat.le_refl _)) rfl (HV.out.below ((Below.refl _ _).alloc (Nat.le_refl _) _)) (by simp; omega) (by simp) ?_; intro v1 w1 o1 b1; simp only [List.nil_append] at o1; have hs1 : w.heap.size ≤ w1.heap.size := Nat.le_trans (by simp) b1.size; obtain ⟨A2, c2, rfl, _, _⟩ := o1.rd)
  go_ret
  obtain ⟨b0, hb0, hr⟩ := Own.rdAt o1
  have h := heap_alloc_new w1 (.cells #[.slice A2 l.length c2, .int .i64 0, .int .i64 0] 95)
  have hsz : (w1.alloc (.cells #[.slice A2 l.length c2, .int .i64 0, .int .i64 0] 95)).heap.size = w1.heap.size + 1 := by simp
  refine ⟨w1.heap.size, rfl, hs1, ⟨.slice A2 l.length c2, b0, fun h0 => by have := hb0 h0; omega, by omega, by omega, Nat.zero_le _, ?_, ?_, ?_, ?_, ?_, ?_⟩, (((Below.refl _ _).alloc (Nat.le_refl _) _).trans b1).alloc hs1 _⟩
  · rw [cell_of_row _ _ _ _ _ _ h]; rfl
  · rw [cell_of_row _ _ _ _ _ _ h]; rfl
  · rw [cell_of_row _ _ _ _ _ _ h]; rfl
  · exact frozen_of_row _ _ _ _ _ h
  · exact frozen_of_row _ _ _ _ _ h
  · obtain ⟨A, c, hA, hc, hr⟩ := hr
    refine ⟨A, c, hA, hc, fun h0 => ?_⟩
    obtain ⟨off, e1, e2, e3⟩ := hr h0
    exact ⟨off, e1, by omega, fun j hj => (World.cell?_alloc_lt _ _ _ e2).trans (e3 j hj)⟩
end Go.Proofs.YtelabmcghahclaaDoor
