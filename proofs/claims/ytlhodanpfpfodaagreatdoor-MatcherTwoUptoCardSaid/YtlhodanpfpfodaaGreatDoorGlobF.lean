/-
  What matcher's fits answers: whether the signs fit all of the runes. Conditions: the lists can be read.
-/
import Derived.Test.YtlhodanpfpfodaaGreatDoorGRow
import Derived.Test.YtlhodanpfpfodaaGreatDoorGlobM
import Derived.Test.YtlhodanpfpfodaaGreatDoorBase
import Derived.Test.YtlhodanpfpfodaaGreatDoorName
import Derived.Deep.QuietTactic
import Derived.BigQuiet
namespace Go.Proofs.YtlhodanpfpfodaaGreatDoor
open Go.RowKit Go.Icz Gl
/-- Runes, and signs, in memory. -/
def K32 : Kd Int := { e := 21, z := 1, enc := fun x => [.int .i32 x], len := fun _ => rfl, pos := by decide, one := fun x u hu => by rw [List.mem_singleton.1 hu]; rfl }
def encG : Sg → Int
  | .any => -2
  | .one => -1
  | .lit r => r
def encP (p : List Sg) : List Int := p.map encG
def encR (l : List Nat) : List Int := l.map fun r : Nat => (r : Int)
theorem K32_at {w : World} {A : Option Addr} {n c : Nat} {l : List Int} (h : K32.Rd w (.slice A n c) l) {j : Nat} (hj : j < l.length) :
    ∃ b off, A = some ⟨b, off, none⟩ ∧ b < w.heap.size ∧ w.cell? ⟨b, off + j, none⟩ = some (.int .i32 l[j]) := by
  obtain ⟨b, off, hA, hb, hc⟩ := h.at hj
  refine ⟨b, off, hA, hb, ?_⟩
  have := hc 0 (.int .i32 l[j]) (by decide) rfl
  have e : j * K32.z + 0 = j := by show j * 1 + 0 = j; omega
  rwa [e] at this
def behindV : Option (Nat × Nat) → Int
  | none => -1
  | some (b, _) => b
def fromV : Option (Nat × Nat) → Int
  | none => 0
  | some (_, f) => f
def measV (p s : Nat) (iv bv fv : Value) : Nat :=
  meas p s (intOf iv).toNat (match intOf bv with | .negSucc _ => none | .ofNat b => some (b, (intOf fv).toNat))
theorem measV_eq (p s i : Nat) (st : Option (Nat × Nat)) : measV p s (.int .i64 i) (.int .i64 (behindV st)) (.int .i64 (fromV st)) = meas p s i st := by
  cases st with
  | none => rfl
  | some x => rfl
set_option maxHeartbeats 4000000 in
set_option maxRecDepth 100000 in
theorem fits_is (pv sv : Value) (p : List Sg) (s : List Nat) (w : World) (hp : K32.Rd w pv (encP p)) (hs : K32.Rd w sv (encR s)) (hlp : p.length ≤ 140737488355328) (hls : s.length ≤ 140737488355328) (hr : ∀ r ∈ s, r ≤ 1114111) (hq : ∀ r, Sg.lit r ∈ p → r ≤ 1114111) :
    Calls Tryz.prog 50 #[pv, sv] w fun e w' => e = .returned (.bool (fit p s)) ∧ ∃ n, w' = w.drewN n := by
  obtain ⟨Ap, cp, rfl, hcp⟩ := hp.form
  obtain ⟨As, cs, rfl, hcs⟩ := hs.form
  have ep : (encP p).length = p.length := by simp [encP]
  have es : (encR s).length = s.length := by simp [encR]
  rw [ep] at hp hcp ⊢
  rw [es] at hs hcs ⊢
  have HP := fun j (hj : j < p.length) => K32_at hp (j := j) (by rw [ep]; exact hj)
  have HS := fun j (hj : j < s.length) => K32_at hs (j := j) (by rw [es]; exact hj)
  go_enter Tryz.func50, Tryz.ntmps50
  go_wp2_with fail
  go_loopw [5, 6, 7, 8] (fun av iv bv fv wr => ∃ (a i : Nat) (st : Option (Nat × Nat)) (n : Nat), av = .int .i64 a ∧ iv = .int .i64 i ∧ bv = .int .i64 (behindV st) ∧ fv = .int .i64 (fromV st) ∧ wr = w.drewN n ∧ Hid (At p s a i st)) (fun _ iv bv fv _ => measV p.length s.length iv bv fv)
  case atStart => exact ⟨0, 0, none, 0, rfl, rfl, rfl, rfl, rfl, hid (At.start p s)⟩
  case round =>
    obtain ⟨a, i, st, n, rfl, rfl, rfl, rfl, rfl, HA⟩ := hrel
    have ha := HA.out.1
    have hi := HA.out.2.1
    by_cases hlt : i < s.length
    · have hlt' : (i : Int) < s.length := by omega
      obtain ⟨bs, os, rfl, _, hcs⟩ := HS i hlt
      by_cases hap : a < p.length
      · have hap' : (a : Int) < p.length := by omega
        obtain ⟨bp, op, rfl, _, hcp⟩ := HP a hap
        have e2 : (encR s)[i] = (s[i] : Int) := by simp [encR]
        have e1 : (encP p)[a] = encG p[a] := by simp [encP]
        rw [e1] at hcp
        rw [e2] at hcs
        have hsi := hr s[i] (List.getElem_mem hlt)
        have hstar := HA.out.star hap
        have hhit := HA.out.hit hap hlt
        have hno : st = none → p[a] ≠ .any ∧ (p[a]).hits s[i] = false → fit p s = false := fun e h => (by subst e; exact HA.out.no hlt fun _ => h)
        have hag : ∀ b f, st = some (b, f) → p[a] ≠ .any ∧ (p[a]).hits s[i] = false → At p s b (f + 1) (some (b, f + 1)) ∧ f < s.length ∧ b ≤ a := fun b f e h => (by subst e; exact ⟨HA.out.again hlt fun _ => h, by have := HA.out.2.2; omega, HA.out.2.2.1⟩)
        have hba : ∀ b f, st = some (b, f) → b ≤ a := fun b f e => (by subst e; exact HA.out.2.2.1)
        have hql := fun r (e : p[a] = .lit r) => hq r (by rw [← e]; exact List.getElem_mem hap)
        have hm1 := meas_star (p := p.length) (s := s.length) (i := i) (st := st) hi hap hba
        have hm2 := meas_hit (p := p.length) (s := s.length) (i := i) (st := st) hlt
        have hmv := measV_eq p.length s.length i st
        clear e1 e2 HP HS HA
        generalize p[a] = x at *
        generalize s[i] = y at *
        cases x with
        | any =>
          have HB := hid (hstar rfl)
          clear hstar hhit hno hag hql
          simp only [encG] at hcp
          cases st with
          | none =>
            simp only [behindV, fromV] at *
            go_wp2_with fail
            have h2 := measV_eq p.length s.length i (some (a + 1, i))
            simp only [behindV, fromV] at h2
            push_cast at h2
            exact ⟨⟨a + 1, i, some (a + 1, i), n, by go_num, rfl, by simp, rfl, rfl, HB⟩, by rw [h2, hmv]; exact hm1⟩
          | some z =>
            obtain ⟨b, f⟩ := z
            simp only [behindV, fromV] at *
            go_wp2_with fail
            have h2 := measV_eq p.length s.length i (some (a + 1, i))
            simp only [behindV, fromV] at h2
            push_cast at h2
            exact ⟨⟨a + 1, i, some (a + 1, i), n, by go_num, rfl, by simp, rfl, rfl, HB⟩, by rw [h2, hmv]; exact hm1⟩
        | one =>
          have HB := hid (hhit (by simp) rfl)
          have d1 : decide (a < p.length) = true := decide_eq_true hap
          clear hstar hhit hno hag hql
          simp only [encG] at hcp
          cases st with
          | none =>
            simp only [behindV, fromV] at *
            go_wp2_with fail
            go_quiet (fail)
            go_wp2_with fail
            have h2 := measV_eq p.length s.length (i + 1) none
            simp only [behindV, fromV] at h2
            push_cast at h2
            exact ⟨⟨a + 1, i + 1, none, n + nq, by go_num, by go_num, rfl, rfl, by first | rfl | rw [World.drewN_drewN], HB⟩, by rw [h2, hmv]; exact hm2⟩
          | some z =>
            obtain ⟨b, f⟩ := z
            simp only [behindV, fromV] at *
            go_wp2_with fail
            go_quiet (fail)
            go_wp2_with fail
            have h2 := measV_eq p.length s.length (i + 1) (some (b, f))
            simp only [behindV, fromV] at h2
            push_cast at h2
            exact ⟨⟨a + 1, i + 1, (some (b, f)), n + nq, by go_num, by go_num, rfl, rfl, by first | rfl | rw [World.drewN_drewN], HB⟩, by rw [h2, hmv]; exact hm2⟩
        | lit r =>
          have d1 : decide (a < p.length) = true := decide_eq_true hap
          have e1 : ((r : Int) == -2) = false := by rw [beq_eq_false_iff_ne]; omega
          have e2 : ((r : Int) == -1) = false := by rw [beq_eq_false_iff_ne]; omega
          simp only [encG] at hcp
          clear hstar hql
          by_cases hry : r = y
          · have HB := hid (hhit (by simp) (by rw [hry]; simp [Sg.hits]))
            have e3 : ((r : Int) == (y : Int)) = true := by rw [beq_iff_eq]; omega
            clear hhit hno hag hry
            cases st with
            | none =>
              simp only [behindV, fromV] at *
              go_wp2_with fail
              go_quiet (fail)
              go_wp2_with fail
              have h2 := measV_eq p.length s.length (i + 1) none
              simp only [behindV, fromV] at h2
              push_cast at h2
              exact ⟨⟨a + 1, i + 1, none, n + nq, by go_num, by go_num, rfl, rfl, by first | rfl | rw [World.drewN_drewN], HB⟩, by rw [h2, hmv]; exact hm2⟩
            | some z =>
              obtain ⟨b, f⟩ := z
              simp only [behindV, fromV] at *
              go_wp2_with fail
              go_quiet (fail)
              go_wp2_with fail
              have h2 := measV_eq p.length s.length (i + 1) (some (b, f))
              simp only [behindV, fromV] at h2
              push_cast at h2
              exact ⟨⟨a + 1, i + 1, (some (b, f)), n + nq, by go_num, by go_num, rfl, rfl, by first | rfl | rw [World.drewN_drewN], HB⟩, by rw [h2, hmv]; exact hm2⟩
          · have hmiss : Sg.lit r ≠ .any ∧ (Sg.lit r).hits y = false := ⟨by simp, by simp [Sg.hits, hry]⟩
            have e3 : ((r : Int) == (y : Int)) = false := by rw [beq_eq_false_iff_ne]; omega
            clear hhit
            cases st with
            | none =>
              have HB := hid (hno rfl hmiss)
              clear hno hag
              simp only [behindV, fromV] at *
              go_wp2_with fail
              go_quiet (fail)
              go_wp2_with fail
              go_ret
              exact ⟨by rw [HB.out]; rfl, n + nq, by first | rfl | rw [World.drewN_drewN]⟩
            | some z =>
              obtain ⟨b, f⟩ := z
              obtain ⟨hb1, hf, hb2⟩ := hag b f rfl hmiss
              have HB := hid hb1
              have hm3 := meas_again (p := p.length) (i := i) (b := b) hf
              clear hno hag hb1
              simp only [behindV, fromV] at *
              have eb : ((b : Int) == -1) = false := by rw [beq_eq_false_iff_ne]; omega
              go_wp2_with fail
              go_quiet (fail)
              go_wp2_with fail
              have h2 := measV_eq p.length s.length (f + 1) (some (b, f + 1))
              simp only [behindV, fromV] at h2
              push_cast at h2
              exact ⟨⟨b, f + 1, some (b, f + 1), n + nq, rfl, by go_num, rfl, by simp, by first | rfl | rw [World.drewN_drewN], HB⟩, by rw [h2, hmv]; exact hm3⟩
      · have d1 : decide (a < p.length) = false := decide_eq_false hap
        have hap' : ¬ (a : Int) < p.length := by omega
        have hno : st = none → (0 : Nat) = 0 → fit p s = false := fun e _ => (by subst e; exact HA.out.no hlt fun h => absurd h hap)
        have hag : ∀ b f, st = some (b, f) → (0 : Nat) = 0 → At p s b (f + 1) (some (b, f + 1)) ∧ f < s.length ∧ b ≤ a := fun b f e _ => (by subst e; exact ⟨HA.out.again hlt fun h => absurd h hap, by have := HA.out.2.2; omega, HA.out.2.2.1⟩)
        have hmv := measV_eq p.length s.length i st
        clear HP HS HA hcs
        cases st with
        | none =>
          have HB := hid (hno rfl rfl)
          clear hno hag
          simp only [behindV, fromV] at *
          go_wp2_with fail
          go_quiet (fail)
          go_wp2_with fail
          go_ret
          exact ⟨by rw [HB.out]; rfl, n + nq, by first | rfl | rw [World.drewN_drewN]⟩
        | some z =>
          obtain ⟨b, f⟩ := z
          obtain ⟨hb1, hf, hb2⟩ := hag b f rfl rfl
          have HB := hid hb1
          have hm3 := meas_again (p := p.length) (i := i) (b := b) hf
          clear hno hag hb1
          simp only [behindV, fromV] at *
          have eb : ((b : Int) == -1) = false := by rw [beq_eq_false_iff_ne]; omega
          go_wp2_with fail
          go_quiet (fail)
          go_wp2_with fail
          have h2 := measV_eq p.length s.length (f + 1) (some (b, f + 1))
          simp only [behindV, fromV] at h2
          push_cast at h2
          exact ⟨⟨b, f + 1, some (b, f + 1), n + nq, rfl, by go_num, rfl, by simp, by first | rfl | rw [World.drewN_drewN], HB⟩, by rw [h2, hmv]; exact hm3⟩
    · obtain rfl : i = s.length := by omega
      have HD := hid (HA.out.done rfl)
      have hlt' : ¬ (s.length : Int) < s.length := by omega
      clear HA HS hlt
      go_wp2_with fail
      go_loopw [5] (fun av wr => ∃ (a n : Nat), av = .int .i64 a ∧ wr = w.drewN n ∧ a ≤ p.length ∧ Hid (fit p s = fit (p.drop a) [])) (fun av _ => p.length - (intOf av).toNat)
      case atStart => exact ⟨a, n, rfl, rfl, ha, HD⟩
      case round =>
        clear HD ha
        obtain ⟨a, n, rfl, rfl, ha, HD⟩ := hrel
        by_cases hap : a < p.length
        · have hap' : (a : Int) < p.length := by omega
          obtain ⟨bp, op, rfl, _, hcp⟩ := HP a hap
          have e1 : (encP p)[a] = encG p[a] := by simp [encP]
          rw [e1] at hcp
          have h1 := fun h => end_star (p := p) (a := a) hap h
          have h2 := fun h => end_no (p := p) (a := a) hap h
          have hql := fun r (e : p[a] = .lit r) => hq r (by rw [← e]; exact List.getElem_mem hap)
          have hne : ((a : Int) == p.length) = false := by simp; omega
          clear e1 HP
          generalize p[a] = x at *
          cases x with
          | any =>
            have HB : Hid (fit p s = fit (p.drop (a + 1)) []) := hid (by rw [HD.out, h1 rfl])
            simp only [encG] at hcp
            clear HD h1 h2 hql
            go_wp2_with fail
            exact ⟨⟨a + 1, n, by go_num, rfl, by omega, HB⟩, by simp [intOf]; omega⟩
          | one =>
            have HB : Hid (fit p s = false) := hid (by rw [HD.out, h2 (by simp)])
            simp only [encG] at hcp
            clear HD h1 h2 hql
            go_wp2_with fail
            go_ret
            exact ⟨by rw [HB.out]; rfl, n, rfl⟩
          | lit r =>
            have HB : Hid (fit p s = false) := hid (by rw [HD.out, h2 (by simp)])
            have e1 : ((r : Int) == -2) = false := by rw [beq_eq_false_iff_ne]; omega
            simp only [encG] at hcp
            clear HD h1 h2 hql
            go_wp2_with fail
            go_ret
            exact ⟨by rw [HB.out]; rfl, n, rfl⟩
        · have HB : Hid (fit p s = true) := hid (by rw [HD.out, end_all (by omega)])
          have hap' : ¬ (a : Int) < p.length := by omega
          have heq : ((a : Int) == p.length) = true := by simp; omega
          clear HD HP
          go_wp2_with fail
          go_ret
          exact ⟨by rw [HB.out]; rfl, n, rfl⟩
end Go.Proofs.YtlhodanpfpfodaaGreatDoor
