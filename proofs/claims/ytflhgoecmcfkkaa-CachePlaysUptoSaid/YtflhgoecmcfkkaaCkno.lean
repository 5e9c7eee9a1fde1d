/-
  The law's knows: what was not used for the longest time goes. No condition.
-/
import Derived.Test.YtflhgoecmcfkkaaCkey
import Derived.Lib.SlBytesConst
namespace Go.Proofs.Ytflhgoecmcfkkaa
open Go.RowKit Go.Icz Go.Maps
theorem Put_ok {w : World} {B q s m li : Nat} {hi mi : Int} {l : List It} (h : Ca w B q s m li hi mi l) (k : ByteArray) (u : Value) (v : List Nat) (hu : Rd w u v) (huF : 0 < v.length → ∀ b, u.ownBlock = some b → ¬ Foot s m l b) (hs : k.size + v.length ≤ li) :
    Calls Try.prog 15 #[.pointer (some ⟨q, 0, none⟩), .string k, u] w fun e w' => e = .returned (.int .i64 0) ∧ ∃ g sv, w.heap.size ≤ g ∧ Ca w' B q s m li hi mi (putL li k v g sv l) ∧ Tch (Foot s m l) w w' := by
  have := h.sh.lim
  refine (Put_is h k (by omega) u v hu (by omega) huF).mono ?_
  rintro e w' (⟨h1, _⟩ | ⟨_, h2, h3⟩)
  · omega
  · exact ⟨h2, h3⟩
theorem Ca.keep {w0 w w' : World} {B q s m li : Nat} {hi mi : Int} {l : List It} (h : Ca w B q s m li hi mi l) (hb : Below B w0 w) (ht : Tch (Foot s m l) w w') : Below B w0 w' :=
  Tch.below hb ht (fun j hj => (h.sh.lt j hj).1) (Nat.le_of_lt (Nat.lt_of_le_of_lt h.lo (row_lt h.at_)))
def kA : ByteArray := ⟨#[97]⟩
def kB : ByteArray := ⟨#[98]⟩
def kC : ByteArray := ⟨#[99]⟩
theorem step1 (g : Nat) (sv : Value) : putL 6 kA [120, 120] g sv [] = [⟨kA, [120, 120], g, sv⟩] := rfl
theorem step2 (g : Nat) (sv : Value) (g2 : Nat) (sv2 : Value) : putL 6 kB [121, 121] g2 sv2 [⟨kA, [120, 120], g, sv⟩] = [⟨kA, [120, 120], g, sv⟩, ⟨kB, [121, 121], g2, sv2⟩] := rfl
theorem step3 (g : Nat) (sv : Value) (g2 : Nat) (sv2 : Value) : bump kA [⟨kA, [120, 120], g, sv⟩, ⟨kB, [121, 121], g2, sv2⟩] = [⟨kB, [121, 121], g2, sv2⟩, ⟨kA, [120, 120], g, sv⟩] := rfl
theorem step3i (g : Nat) (sv : Value) (g2 : Nat) (sv2 : Value) : isIn kA [⟨kA, [120, 120], g, sv⟩, ⟨kB, [121, 121], g2, sv2⟩] = true := rfl
theorem step4 (g : Nat) (sv : Value) (g2 : Nat) (sv2 : Value) (g3 : Nat) (sv3 : Value) : putL 6 kC [122] g3 sv3 [⟨kB, [121, 121], g2, sv2⟩, ⟨kA, [120, 120], g, sv⟩] = [⟨kA, [120, 120], g, sv⟩, ⟨kC, [122], g3, sv3⟩] := rfl
theorem step5 (g : Nat) (sv : Value) (g3 : Nat) (sv3 : Value) : tot [⟨kA, [120, 120], g, sv⟩, ⟨kC, [122], g3, sv3⟩] = 5 := rfl
theorem ownBlock_new {w : World} {n c b : Nat} (h : (Value.slice (some ⟨w.heap.size, 0, none⟩) n c).ownBlock = some b) : b = w.heap.size := by
  unfold Value.ownBlock at h
  injection h with h
  exact h.symm
theorem new_far {w : World} {B q s m li : Nat} {hi mi : Int} {l : List It} (h : Ca w B q s m li hi mi l) (n c : Nat) : ∀ b, (Value.slice (some ⟨w.heap.size, 0, none⟩) n c).ownBlock = some b → ¬ Foot s m l b := fun b hb hf => by
  have := ownBlock_new hb
  have := (h.sh.lt b hf).2
  omega
theorem rd_two (w : World) (a b : Nat) : Rd (w.alloc (.cells #[.int .u8 (a : Int), .int .u8 (b : Int)] 5 (2, 3))) (.slice (some ⟨w.heap.size, 0, none⟩) 2 2) [a, b] := by
  have h := heap_alloc_new w (.cells #[.int .u8 (a : Int), .int .u8 (b : Int)] 5 (2, 3))
  refine ⟨_, 2, rfl, by simp, fun _ => ⟨w.heap.size, 0, rfl, by simp, fun j hj => ?_⟩⟩
  rw [cell_of_row _ _ _ _ _ _ h]
  match j, hj with
  | 0, _ => rfl
  | 1, _ => rfl
theorem rd_one (w : World) (a : Nat) : Rd (w.alloc (.cells #[.int .u8 (a : Int)] 5 (1, 2))) (.slice (some ⟨w.heap.size, 0, none⟩) 1 1) [a] := by
  have h := heap_alloc_new w (.cells #[.int .u8 (a : Int)] 5 (1, 2))
  refine ⟨_, 1, rfl, by simp, fun _ => ⟨w.heap.size, 0, rfl, by simp, fun j hj => ?_⟩⟩
  rw [cell_of_row _ _ _ _ _ _ h]
  match j, hj with
  | 0, _ => rfl
theorem num_is (a : Int) (w : World) : Calls Try.prog 9 #[.int .i64 a] w fun e w' => e = .returned (.int .i64 a) ∧ w' = w := by
  go_enter Try.func9, Try.ntmps9
  go_wp2
  go_ret
  exact ⟨rfl, rfl⟩
theorem lit_two (w : World) : KS.Rd (w.alloc (.cells #[.string kA, .string kC] 9)) (.slice (some ⟨w.heap.size, 0, none⟩) 2 2) [kA, kC] :=
  (Kd.Own.lit (K := KS) w [kA, kC] (by show 2 ≤ maxLen; decide) (Nat.zero_le _)).rd
set_option maxRecDepth 100000 in
set_option maxHeartbeats 1000000 in
theorem knows_is (w : World) : Calls Try.prog 10 #[] w fun e w' => e = .returned (.bool true) ∧ Below w.heap.size w w' := by
  have hN : Calls Try.prog 7 #[.int .i64 6] w fun e w' => e = .returned (.tuple #[.pointer (some ⟨w.heap.size + 1 + 1, 0, none⟩), .int .i64 0]) ∧ Ca w' w.heap.size (w.heap.size + 1 + 1) (w.heap.size + 1) w.heap.size 6 0 0 [] ∧ Below w.heap.size w w' := New_yes 6 w (by decide) (by decide)
  have P1 : ∀ w1, Ca w1 w.heap.size (w.heap.size + 1 + 1) (w.heap.size + 1) w.heap.size 6 0 0 [] → Below w.heap.size w w1 →
      Calls Try.prog 15 #[.pointer (some ⟨w.heap.size + 1 + 1, 0, none⟩), .string ⟨#[97]⟩, .slice (some ⟨w1.heap.size, 0, none⟩) 2 2] (w1.alloc (.cells #[.int .u8 120, .int .u8 120] 5 (2, 3))) fun e w' => e = .returned (.int .i64 0) ∧ ∃ g sv, Ca w' w.heap.size (w.heap.size + 1 + 1) (w.heap.size + 1) w.heap.size 6 0 0 [⟨kA, [120, 120], g, sv⟩] ∧ Below w.heap.size w w' := by
    intro w1 h hb
    have ha := (Below.refl w1.heap.size w1).alloc (Nat.le_refl _) (.cells #[.int .u8 120, .int .u8 120] 5 (2, 3))
    refine (Put_ok (h.below ha) kA _ [120, 120] (rd_two w1 120 120) (fun _ => new_far h 2 2) (by decide)).mono ?_
    rintro e w' ⟨rfl, g, sv, _, hc, ht⟩
    rw [step1] at hc
    exact ⟨rfl, g, sv, hc, (h.below ha).keep (hb.trans (ha.mono hb.size)) ht⟩
  have P2 : ∀ w1 g sv, Ca w1 w.heap.size (w.heap.size + 1 + 1) (w.heap.size + 1) w.heap.size 6 0 0 [⟨kA, [120, 120], g, sv⟩] → Below w.heap.size w w1 →
      Calls Try.prog 15 #[.pointer (some ⟨w.heap.size + 1 + 1, 0, none⟩), .string ⟨#[98]⟩, .slice (some ⟨w1.heap.size, 0, none⟩) 2 2] (w1.alloc (.cells #[.int .u8 121, .int .u8 121] 5 (2, 3))) fun e w' => e = .returned (.int .i64 0) ∧ ∃ g2 sv2, Ca w' w.heap.size (w.heap.size + 1 + 1) (w.heap.size + 1) w.heap.size 6 0 0 [⟨kA, [120, 120], g, sv⟩, ⟨kB, [121, 121], g2, sv2⟩] ∧ Below w.heap.size w w' := by
    intro w1 g sv h hb
    have ha := (Below.refl w1.heap.size w1).alloc (Nat.le_refl _) (.cells #[.int .u8 121, .int .u8 121] 5 (2, 3))
    refine (Put_ok (h.below ha) kB _ [121, 121] (rd_two w1 121 121) (fun _ => new_far h 2 2) (by decide)).mono ?_
    rintro e w' ⟨rfl, g2, sv2, _, hc, ht⟩
    rw [step2] at hc
    exact ⟨rfl, g2, sv2, hc, (h.below ha).keep (hb.trans (ha.mono hb.size)) ht⟩
  have P3 : ∀ w1 g sv g2 sv2, Ca w1 w.heap.size (w.heap.size + 1 + 1) (w.heap.size + 1) w.heap.size 6 0 0 [⟨kA, [120, 120], g, sv⟩, ⟨kB, [121, 121], g2, sv2⟩] → Below w.heap.size w w1 →
      Calls Try.prog 12 #[.pointer (some ⟨w.heap.size + 1 + 1, 0, none⟩), .string ⟨#[97]⟩] w1 fun e w' => ∃ u, e = .returned (.tuple #[u, .bool true]) ∧ Ca w' w.heap.size (w.heap.size + 1 + 1) (w.heap.size + 1) w.heap.size 6 1 0 [⟨kB, [121, 121], g2, sv2⟩, ⟨kA, [120, 120], g, sv⟩] ∧ Below w.heap.size w w' := by
    intro w1 g sv g2 sv2 h hb
    refine (Get_is h kA (by decide)).mono ?_
    rintro e w' ⟨u, rfl, _, hc, ht⟩
    rw [step3i, step3] at hc
    rw [step3i]
    exact ⟨u, rfl, hc, h.keep hb ht⟩
  have P4 : ∀ w1 g sv g2 sv2, Ca w1 w.heap.size (w.heap.size + 1 + 1) (w.heap.size + 1) w.heap.size 6 1 0 [⟨kB, [121, 121], g2, sv2⟩, ⟨kA, [120, 120], g, sv⟩] → Below w.heap.size w w1 →
      Calls Try.prog 15 #[.pointer (some ⟨w.heap.size + 1 + 1, 0, none⟩), .string ⟨#[99]⟩, .slice (some ⟨w1.heap.size, 0, none⟩) 1 1] (w1.alloc (.cells #[.int .u8 122] 5 (1, 2))) fun e w' => e = .returned (.int .i64 0) ∧ ∃ g3 sv3, Ca w' w.heap.size (w.heap.size + 1 + 1) (w.heap.size + 1) w.heap.size 6 1 0 [⟨kA, [120, 120], g, sv⟩, ⟨kC, [122], g3, sv3⟩] ∧ Below w.heap.size w w' := by
    intro w1 g sv g2 sv2 h hb
    have ha := (Below.refl w1.heap.size w1).alloc (Nat.le_refl _) (.cells #[.int .u8 122] 5 (1, 2))
    refine (Put_ok (h.below ha) kC _ [122] (rd_one w1 122) (fun _ => new_far h 1 1) (by decide)).mono ?_
    rintro e w' ⟨rfl, g3, sv3, _, hc, ht⟩
    rw [step4] at hc
    exact ⟨rfl, g3, sv3, hc, (h.below ha).keep (hb.trans (ha.mono hb.size)) ht⟩
  have P5 : ∀ w1 g sv g3 sv3, Ca w1 w.heap.size (w.heap.size + 1 + 1) (w.heap.size + 1) w.heap.size 6 1 0 [⟨kA, [120, 120], g, sv⟩, ⟨kC, [122], g3, sv3⟩] →
      Calls Try.prog 18 #[.pointer (some ⟨w.heap.size + 1 + 1, 0, none⟩)] w1 fun e w' => ∃ u, e = .returned u ∧ KS.Own w' w1.heap.size u [kA, kC] ∧ Below w1.heap.size w1 w' := fun w1 g sv g3 sv3 h => Keys_is h
  have P6 : ∀ w2 u, KS.Own w2 w2.heap.size u [kA, kC] ∨ KS.Rd w2 u [kA, kC] →
      Calls Try.prog 19 #[u, .slice (some ⟨w2.heap.size, 0, none⟩) 2 2] (w2.alloc (.cells #[.string ⟨#[97]⟩, .string ⟨#[99]⟩] 9)) fun e w' => e = .returned (.bool true) ∧ Below w2.heap.size w2 w' := by
    intro w2 u h
    have hr : KS.Rd w2 u [kA, kC] := h.elim (fun h => h.rd) id
    have ha := (Below.refl w2.heap.size w2).alloc (Nat.le_refl _) (.cells #[.string ⟨#[97]⟩, .string ⟨#[99]⟩] 9)
    refine (Texts_is u _ [kA, kC] [kA, kC] _ (hr.below ha) (lit_two w2) (by decide) (by decide)).mono ?_
    rintro e w' ⟨rfl, hb⟩
    exact ⟨by simp, ha.trans (hb.mono ha.size)⟩
  have P7 : ∀ w1 w2 g sv g3 sv3, Ca w1 w.heap.size (w.heap.size + 1 + 1) (w.heap.size + 1) w.heap.size 6 1 0 [⟨kA, [120, 120], g, sv⟩, ⟨kC, [122], g3, sv3⟩] → Below w1.heap.size w1 w2 →
      Calls Try.prog 17 #[.pointer (some ⟨w.heap.size + 1 + 1, 0, none⟩)] w2 fun e w' => e = .returned (.int .i64 5) ∧ w' = w2 := fun w1 w2 g sv g3 sv3 h hb => Used_is (h.below hb)
  generalize hq : w.heap.size + 1 + 1 = q at *
  generalize hs : w.heap.size + 1 = s at *
  have kc := fun (w : World) (C : Array Value) (n c : Nat) => Lib.run_convert_bytes_const (P := Try.prog) w 32 5 C n c Try.underlying32 Try.underlying5
  have t1 := True.intro
  have t2 := True.intro
  have t3 := True.intro
  go_enter Try.func10, Try.ntmps10
  go_wp2_with (first
    | (go_at_call 7; refine hN.mono ?_; rintro e w1 ⟨rfl, h1, b1⟩)
    | (clear t1; go_at_call 15; refine (P1 w1 h1 b1).mono ?_; rintro e w2 ⟨rfl, g, sv, h2, b2⟩; clear P1)
    | (clear t2; go_at_call 15; refine (P2 w2 g sv h2 b2).mono ?_; rintro e w3 ⟨rfl, g2, sv2, h3, b3⟩; clear P2)
    | (go_at_call 12; refine (P3 w3 g sv g2 sv2 h3 b3).mono ?_; rintro e w4 ⟨u4, rfl, h4, b4⟩; clear P3)
    | (clear t3; go_at_call 15; refine (P4 w4 g sv g2 sv2 h4 b4).mono ?_; rintro e w5 ⟨rfl, g3, sv3, h5, b5⟩; clear P4)
    | (go_at_call 18; refine (P5 w5 g sv g3 sv3 h5).mono ?_; rintro e w6 ⟨u6, rfl, o6, b6⟩; clear P5)
    | (go_at_call 9; refine (num_is _ _).mono ?_; rintro e w0 ⟨rfl, hw0⟩; have hw0 := hw0.symm; subst hw0)
    | (go_at_call 19; refine (P6 w6 u6 (.inr o6.rd)).mono ?_; rintro e w7 ⟨rfl, b7⟩; clear P6)
    | (go_at_call 17; refine (P7 w5 w7 g sv g3 sv3 h5 (b6.trans (b7.mono b6.size))).mono ?_; rintro e w8 ⟨rfl, rfl⟩; clear P7))
  go_ret
  exact ⟨rfl, b5.trans ((b6.trans (b7.mono b6.size)).mono b5.size)⟩
end Go.Proofs.Ytflhgoecmcfkkaa
