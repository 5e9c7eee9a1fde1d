/-
  What the law's knows answers: true. Condition: the program's tables are in place.
  What the law's long answers. Condition: sizes.
-/
import Derived.Test.YtlhodanpfpfodaaGreatDoorMPar
import Derived.Test.YtlhodanpfpfodaaGreatDoorMPrt
import Derived.Test.YtlhodanpfpfodaaGreatDoorGlobP
import Derived.Test.YtlhodanpfpfodaaGreatDoorMTab
namespace Go.Proofs.YtlhodanpfpfodaaGreatDoor
open Go.RowKit Go.Icz
def kq : Qy := ⟨[⟨[97, 112, 112], 1, [120]⟩], [], 0, 9, 0, true⟩
def kt : B8 := [123, 97, 112, 112, 61, 34, 120, 34, 125, 32, 116, 111, 32, 57, 32, 110, 101, 119, 101, 115, 116]
theorem kt_is : printT kq = kt := by
  have e1 : Lib.itoa 9 = [57] := by
    show Lib.itoa ((9 : Nat) : Int) = _
    rw [Lib.itoa_nonneg, Lib.decDigits]
    rfl
  have e2 : quoteS [120] = [34, 120, 34] := by decide +kernel
  have e3 : numT [116, 111] 1099511627776 9 = [32, 116, 111, 32, 57] := by
    unfold numT
    rw [if_neg (by decide), e1]
    rfl
  unfold printT tailT kq
  simp only [List.map_cons, List.map_nil, mtS, e2, e3, Lib.join_one]
  rfl
theorem kq_right : rightQ kq = true := by decide +kernel
theorem kq_print : printQ kq = kt := by unfold printQ; rw [if_pos kq_right, kt_is]
theorem kq_parse : parseQ kt = some kq := by
  have := parse_back (q := kq) kq_right (pre := []) (suf := []) (by simp) (by simp)
  rwa [List.nil_append, List.append_nil, kt_is] at this
theorem kr1 : runesS [97, 42, 124, 98, 63] = [97, 42, 124, 98, 63] := by decide +kernel
theorem kr2 : runesS [98, 99] = [98, 99] := by decide +kernel
theorem kr3 : runesS [98] = [98] := by decide +kernel
theorem kglob1 : globS [97, 42, 124, 98, 63] [98, 99] = true := by
  unfold globS
  rw [kr1, kr2]
  simp [Gl.globR, Gl.toks, Gl.split, Gl.fit, Gl.signOf, Gl.Sg.hits]
theorem kglob2 : globS [97, 42, 124, 98, 63] [98] = false := by
  unfold globS
  rw [kr1, kr3]
  simp [Gl.globR, Gl.toks, Gl.split, Gl.fit, Gl.signOf, Gl.Sg.hits]
theorem num6_is (n : Int) (w : World) : Calls Tryz.prog 30 #[.int .i64 n] w fun e w' => e = .returned (.int .i64 n) ∧ w = w' := by
  go_enter Tryz.func30, Tryz.ntmps30
  go_wp2
  go_ret
  exact ⟨rfl, rfl⟩
set_option maxHeartbeats 4000000 in
set_option maxRecDepth 100000 in
theorem knows6_is (w : World) (hT : TabsM w) (h9 : 9 ≤ w.heap.size) : Calls Tryz.prog 19 #[] w fun e w' => e = .returned (.bool true) ∧ Below w.heap.size w w' := by
  have hP := MParse_is kt w (by decide) hT h9
  unfold ParseAns at hP
  rw [kq_parse] at hP
  simp only [] at hP
  have hG1 := fun w1 => Glob_is ⟨#[97, 42, 124, 98, 63]⟩ ⟨#[98, 99]⟩ w1 (by decide) (by decide)
  have hG2 := fun w1 => Glob_is ⟨#[97, 42, 124, 98, 63]⟩ ⟨#[98]⟩ w1 (by decide) (by decide)
  have e1 : (⟨#[97, 42, 124, 98, 63]⟩ : ByteArray).data.toList = [97, 42, 124, 98, 63] := rfl
  have e2 : (⟨#[98, 99]⟩ : ByteArray).data.toList = [98, 99] := rfl
  have e3 : (⟨#[98]⟩ : ByteArray).data.toList = [98] := rfl
  rw [e1, e2, kglob1] at hG1
  rw [e1, e3, kglob2] at hG2
  clear e1 e2 e3
  have hPr := fun mv w1 (hR : KM.Rd w1 mv kq.ms) (hT1 : TabsM w1) (h1 : 9 ≤ w1.heap.size) => MPrint_is mv kq w1 hR (by decide) (by decide) (by decide) hT1 h1
  have hRi := fun mv w1 (hR : KM.Rd w1 mv kq.ms) (hT1 : Tabs w1) => MRight_is mv kq w1 hR (by decide) (by decide) (by decide) hT1
  rw [kq_print] at hPr
  rw [kq_right] at hRi
  have ek : ∀ mv, qryV mv kq = .agg #[mv, .string ⟨#[]⟩, .int .i64 0, .int .i64 9, .int .i64 0, .bool true] := fun _ => rfl
  simp only [ek] at hP hPr hRi
  go_enter Tryz.func19, Tryz.ntmps19
  go_wp2_with (first
    | (go_at_call 23; refine hP.mono ?_; rintro e w1 ⟨⟨mv, own, rfl⟩, b1⟩; clear hP; obtain ⟨A, c, rfl, _⟩ := own.rd.form; have ba := b1.alloc b1.size (.cells #[.slice A kq.ms.length c, .string ⟨#[]⟩, .int .i64 0, .int .i64 9, .int .i64 0, .bool true] 40); have bx := heap_alloc_new w1 (.cells #[.slice A kq.ms.length c, .string ⟨#[]⟩, .int .i64 0, .int .i64 9, .int .i64 0, .bool true] 40); have zx := (Array.getElem?_eq_some_iff.1 bx).1)
    | (go_at_call 20; refine (hG1 _).mono ?_; rintro e w2 ⟨rfl, b2⟩; clear hG1; have bx2 := (b2.block _ zx).trans bx; have zz2 := b2.size)
    | (go_at_call 20; refine (hG2 _).mono ?_; rintro e w3 ⟨rfl, b3⟩; clear hG2; have bx3 := (b3.block _ (Nat.lt_of_lt_of_le zx zz2)).trans bx2; have zz3 := b3.size; obtain ⟨d0, d1, d2, d3, d4, d5⟩ := six_cells bx3; have own3 := ((own.alloc _).below b2).below b3; have bt3 := (ba.trans (b2.mono ba.size)).trans (b3.mono (Nat.le_trans ba.size zz2)); have hT3 := hT.below bt3)
    | (go_at_call 30; refine (num6_is _ _).mono ?_; rintro e w9 ⟨rfl, rfl⟩)
    | (go_at_call 27; refine (hPr _ _ own3.rd hT3 (Nat.le_trans h9 bt3.size)).mono ?_; rintro e w4 ⟨rfl, b4⟩; clear hPr; have bx4 := (b4.block _ (Nat.lt_of_lt_of_le (Nat.lt_of_lt_of_le zx zz2) zz3)).trans bx3; clear d0 d1 d2 d3 d4 d5; obtain ⟨d0, d1, d2, d3, d4, d5⟩ := six_cells bx4; have own4 := own3.below b4; have bt4 := bt3.trans (b4.mono bt3.size); have hT4 := hT.below bt4)
    | (go_at_call 25; refine (hRi _ _ own4.rd hT4.tabs).mono ?_; rintro e w5 ⟨rfl, b5⟩; clear hRi; have bt5 := bt4.trans (b5.mono bt4.size)))
  go_ret
  exact ⟨rfl, bt5⟩
end Go.Proofs.YtlhodanpfpfodaaGreatDoor
namespace Go.Proofs.YtlhodanpfpfodaaGreatDoor
open Go.RowKit Go.Icz
def longB (m n : Nat) : Bool := decide (2000 < m) || decide (2000 < n) || decide (100000 < m * n)
set_option maxHeartbeats 1000000 in
theorem Long_is (p s : ByteArray) (w : World) (hp : p.size ≤ 8388608) (hs : s.size ≤ 8388608) :
    Calls Tryz.prog 18 #[.string p, .string s] w fun e w' => e = .returned (.bool (longB p.size s.size)) ∧ Below w.heap.size w w' := by
  by_cases h1 : 2000 < p.size
  · have e : Hid (longB p.size s.size = true) := hid (by unfold longB; rw [decide_eq_true h1]; rfl)
    go_enter Tryz.func18, Tryz.ntmps18
    go_wp2_with fail
    go_ret
    exact ⟨by rw [e.out]; first | rfl | (simp; omega), Below.refl _ _⟩
  by_cases h2 : 2000 < s.size
  · have e : Hid (longB p.size s.size = true) := hid (by unfold longB; rw [decide_eq_true h2]; simp)
    go_enter Tryz.func18, Tryz.ntmps18
    go_wp2_with fail
    go_ret
    exact ⟨by rw [e.out]; first | rfl | (simp; omega), Below.refl _ _⟩
  have hm : p.size * s.size ≤ 2000 * 2000 := Nat.mul_le_mul (by omega) (by omega)
  have em : ((p.size : Int) * (s.size : Int)) = ((p.size * s.size : Nat) : Int) := by simp
  by_cases h3 : 100000 < p.size * s.size
  · have e : Hid (longB p.size s.size = true) := hid (by unfold longB; rw [decide_eq_true h3]; simp)
    obtain ⟨k, hk⟩ : ∃ k, p.size * s.size = k := ⟨_, rfl⟩
    rw [hk] at em hm h3
    clear hk
    go_enter Tryz.func18, Tryz.ntmps18
    go_wp2_with fail
    go_ret
    exact ⟨by rw [e.out]; first | rfl | (simp; omega), Below.refl _ _⟩
  · have e : Hid (longB p.size s.size = false) := hid (by unfold longB; rw [decide_eq_false h1, decide_eq_false h2, decide_eq_false h3]; rfl)
    obtain ⟨k, hk⟩ : ∃ k, p.size * s.size = k := ⟨_, rfl⟩
    rw [hk] at em hm h3
    clear hk
    go_enter Tryz.func18, Tryz.ntmps18
    go_wp2_with fail
    go_ret
    exact ⟨by rw [e.out]; first | rfl | (simp; omega), Below.refl _ _⟩
end Go.Proofs.YtlhodanpfpfodaaGreatDoor
