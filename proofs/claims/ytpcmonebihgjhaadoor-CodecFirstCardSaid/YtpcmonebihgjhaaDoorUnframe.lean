/-
  What codec.readSum and codec.Unframe answer of any bytes: the errors one by one, and the frame. Conditions: those that each theorem names.
-/
import Derived.Test.YtpcmonebihgjhaaDoorFrame
import Derived.Test.YtpcmonebihgjhaaDoorRdWalk
import Derived.Deep.RegionHeld3
namespace Go.Icy
open Go.RowKit
theorem Rd.zero (w : World) (A : Option Addr) (c : Nat) : Rd w (.slice A 0 c) [] := ⟨A, c, rfl, Nat.zero_le _, fun h => absurd h (by simp)⟩
theorem Rd.sub {w : World} {b off c : Nat} {l : List Nat} (h : Rd w (.slice (some ⟨b, off, none⟩) l.length c) l) (lo n c' : Nat) (hn : lo + n ≤ l.length) (hc : n ≤ c') : Rd w (.slice (some ⟨b, off + lo, none⟩) n c') ((l.drop lo).take n) := by
  obtain ⟨A, c2, hv, _, hr⟩ := h
  injection hv with hA _ hc2
  subst hA
  have hlen : ((l.drop lo).take n).length = n := by simp; omega
  refine ⟨_, c', by rw [hlen], by omega, fun h0 => ?_⟩
  obtain ⟨b', off', e, hlt, hcell⟩ := hr (by omega)
  injection e with e
  injection e with e1 e2
  subst e1 e2
  refine ⟨b, off + lo, rfl, hlt, fun j hj => ?_⟩
  rw [Nat.add_assoc, hcell (lo + j) (by omega)]
  simp
end Go.Icy
namespace Go.Proofs.YtpcmonebihgjhaaDoor
open Go.RowKit Go.Icy
/-- Four bytes as a number, the highest first. -/
def beN (l : List Nat) : Nat := l.foldl (fun s c => s * 256 + c) 0
theorem beN_take {l : List Nat} {k : Nat} (h : k < l.length) : beN (l.take (k + 1)) = beN (l.take k) * 256 + l[k] := by
  rw [List.take_succ_eq_append_getElem h, beN, List.foldl_append]
  rfl
theorem beN_lt : ∀ (k : Nat) (l : List Nat), (∀ c ∈ l, c < 256) → k ≤ l.length → beN (l.take k) < 256 ^ k
  | 0, _, _, _ => by simp [beN]
  | k + 1, l, hl, hk => by
    rw [beN_take (by omega), Nat.pow_succ]
    have h1 := beN_lt k l hl (by omega)
    have h2 := hl l[k] (List.getElem_mem (by omega))
    omega
theorem or256 {s c : Nat} (hs : s < 16777216) (hc : c < 256) : bits .or .u32 ((s : Int) * 256) (c : Int) = ((s * 256 + c : Nat) : Int) := by
  have h := u32_or_nat (s * 256) c (by omega) (by omega)
  rw [show s * 256 ||| c = s * 256 + c by rw [Nat.mul_comm]; exact (Nat.two_pow_add_eq_or_of_lt (i := 8) hc s).symm] at h
  rw [← h]
  simp
set_option maxRecDepth 100000 in
set_option maxHeartbeats 400000 in
theorem readSum_any (v : Value) (l : List Nat) (w : World) (hv : Rd w v l) (hl : ∀ c ∈ l, c < 256) (h4 : 4 ≤ l.length) (hlen : l.length ≤ 9223372036854775807) :
    Calls Tryd.prog 25 #[v] w fun e w' => e = .returned (.int .u32 (beN (l.take 4) : Int)) ∧ w = w' := by
  obtain ⟨A, c, rfl, hc, hr⟩ := hv
  obtain ⟨b, off, rfl, _, hcell⟩ := hr (by omega)
  have HC := hid hcell
  have HL := hid hl
  have hc4 : 4 ≤ c := by omega
  have hc5 : (4 : Int) ≤ c := by omega
  clear hcell hl hr
  go_enter Tryd.func25, Tryd.ntmps25
  go_wp2
  go_loop [3, 9] (fun x i => ∃ k : Nat, k ≤ 4 ∧ i = .int .i64 k ∧ x = .int .u32 (beN (l.take k) : Int)) (fun _ i => 4 - (intOf i).toNat)
  case atStart => exact ⟨0, by omega, rfl, rfl⟩
  case round =>
    obtain ⟨k, hk, rfl, rfl⟩ := hrel
    by_cases hlt : (k : Int) < 4
    · have hck := HC.out k (by omega)
      have hx := HL.out l[k] (List.getElem_mem (by omega))
      have HT := hid (beN_take (l := l) (k := k) (by omega))
      have hs : beN (l.take k) < 16777216 := by
        have h1 := beN_lt k l HL.out (by omega)
        have h2 : 256 ^ k ≤ 256 ^ 3 := Nat.pow_le_pow_right (by omega) (by omega)
        omega
      generalize beN (l.take k) = s at *
      generalize l[k] = x at *
      have e := or256 hs hx
      obtain ⟨s2, hs2⟩ : ∃ s2, s * 256 + x = s2 := ⟨_, rfl⟩
      rw [hs2] at e HT
      clear hs2
      go_wp2
      go_round
      case rel => exact ⟨k + 1, by omega, by go_num, by rw [HT.out]⟩
      case measure => simp [intOf]; omega
    · obtain rfl : k = 4 := by omega
      go_wp2
      go_ret
      exact ⟨rfl, rfl⟩
theorem results_four {fn : Func} {t u v x : Tmp} (h : fn.results = #[.tmp t, .tmp u, .tmp v, .tmp x]) (tmps : Array Value) (P : Program) (w : World) :
    (results fn tmps).run P w = .ok (.tuple #[tmps.getD t undef, tmps.getD u undef, tmps.getD v undef, tmps.getD x undef]) w := by simp [results, h]
theorem ret_four {a b c d a' b' c' d' : Value} (h1 : a = a') (h2 : b = b') (h3 : c = c') (h4 : d = d') : Ending.returned (.tuple #[a, b, c, d]) = Ending.returned (.tuple #[a', b', c', d']) := by rw [h1, h2, h3, h4]
theorem int_eq {a b : Int} (h : a = b) : Value.int .i64 a = Value.int .i64 b := by rw [h]
theorem sum3 {s n : Nat} (hs : s ≤ 8) (hn : n ≤ 1048576) : IntKind.i64.wrap (IntKind.i64.wrap (IntKind.i64.wrap (2 + (s : Int)) + 4) + (n : Int)) = ((2 + s + 4 + n : Nat) : Int) := by
  rw [IntWalk.i64_in (2 + (s : Int)) (by omega), IntWalk.i64_in (2 + (s : Int) + 4) (by omega), IntWalk.i64_in (2 + (s : Int) + 4 + (n : Int)) (by omega)]
  omega
theorem sum2 {s : Nat} (hs : s ≤ 8) : IntKind.i64.wrap (IntKind.i64.wrap (IntKind.i64.wrap (2 + (s : Int)) + 4)) = ((2 + s + 4 + 0 : Nat) : Int) := by
  rw [IntWalk.i64_in (2 + (s : Int)) (by omega), IntWalk.i64_in (2 + (s : Int) + 4) (by omega), IntWalk.i64_in (2 + (s : Int) + 4) (by omega)]
  omega
def UF (w : World) (k : Nat) (inn : List Nat) (n er : Nat) (e : Ending) (w' : World) : Prop :=
  ∃ v, e = .returned (.tuple #[.int .i64 (k : Int), v, .int .i64 (n : Int), .int .i64 (er : Int)]) ∧ Rd w' v inn ∧ Below w.heap.size w w'
theorem UF.fail {w : World} {er : Nat} {e : Ending} (h : e = .returned (.tuple #[.int .i64 0, .slice none 0 0, .int .i64 0, .int .i64 (er : Int)])) : UF w 0 [] 0 er e w := ⟨_, h, Rd.nil _, Below.refl _ _⟩
theorem Unframe_empty (v : Value) (w : World) (hv : Rd w v []) : Calls Tryd.prog 17 #[v] w (UF w 0 [] 0 20) := by
  obtain ⟨A, c, rfl, _, _⟩ := hv
  simp only [List.length_nil]
  go_enter Tryd.func17, Tryd.ntmps17
  go_wp2
  refine bodyPost_ret (results_four rfl _ _ _) rfl ?_
  exact UF.fail rfl
theorem Unframe_head (v : Value) (x : Nat) (l : List Nat) (w : World) (hv : Rd w v (x :: l)) (hx : x ≠ 165) : Calls Tryd.prog 17 #[v] w (UF w 0 [] 0 21) := by
  obtain ⟨A, c, rfl, _, hr⟩ := hv
  obtain ⟨b, off, rfl, _, hcell⟩ := hr (by simp)
  have h0 := hcell 0 (by simp)
  simp only [Nat.add_zero, List.getElem_cons_zero] at h0
  have hx2 : ((x : Int) == 165) = false := by rw [beq_eq_false_iff_ne]; omega
  have hx3 : ((x : Int) != 165) = true := by rw [bne_iff_ne]; omega
  simp only [List.length_cons]
  clear hcell hr
  go_enter Tryd.func17, Tryd.ntmps17
  go_wp2
  refine bodyPost_ret (results_four rfl _ _ _) rfl ?_
  exact UF.fail rfl
theorem Unframe_one (v : Value) (w : World) (hv : Rd w v [165]) : Calls Tryd.prog 17 #[v] w (UF w 0 [] 0 20) := by
  obtain ⟨A, c, rfl, _, hr⟩ := hv
  obtain ⟨b, off, rfl, _, hcell⟩ := hr (by simp)
  have h0 : w.cell? ⟨b, off, none⟩ = some (.int .u8 165) := hcell 0 (by simp)
  simp only [List.length_cons, List.length_nil, Nat.zero_add]
  clear hcell hr
  go_enter Tryd.func17, Tryd.ntmps17
  go_wp2
  refine bodyPost_ret (results_four rfl _ _ _) rfl ?_
  exact UF.fail rfl
/-- From two bytes on, the first one right. -/
theorem Unframe_num (v : Value) (l : List Nat) (w : World) (n s er : Nat) (hv : Rd w v l) (h2 : 2 ≤ l.length) (h165 : l.head? = some 165) (hl : ∀ c ∈ l, c < 256) (hlen : l.length ≤ 9223372036854775807)
    (hr : rdn (l.drop 2) = (n, s, er)) (her : er ≠ 0) : Calls Tryd.prog 17 #[v] w (UF w 0 [] 0 er) := by
  have hv0 := hv
  obtain ⟨A, c, rfl, hc, hrd⟩ := hv
  obtain ⟨b, off, rfl, _, hcell⟩ := hrd (by omega)
  have h0 : w.cell? ⟨b, off, none⟩ = some (.int .u8 165) := by
    have h := hcell 0 (by omega)
    rw [List.head?_eq_getElem?, List.getElem?_eq_getElem (by omega)] at h165
    injection h165 with h165
    rw [h165] at h
    exact h
  have r2 := hv0.sub 2 (l.length - 2) (c - 2) (by omega) (by omega)
  have e2 : (l.drop 2).take (l.length - 2) = l.drop 2 := List.take_of_length_le (by simp)
  rw [e2] at r2
  have HR := hid hr
  have H2 := hid r2
  have HL := hid hl
  have hb : ((er : Int) == 0) = false := by rw [beq_eq_false_iff_ne]; omega
  have hb2 : ((er : Int) != 0) = true := by rw [bne_iff_ne]; omega
  clear hcell hrd hv0 hr r2 e2 h165 hl
  by_cases hc2 : l.length = 2
  · have e3 := hid (List.drop_eq_nil_of_le (show l.length ≤ 2 by omega))
    have HC := hid hc2
    rw [hc2] at hc ⊢
    clear hc2 h2 hlen H2
    go_enter Tryd.func17, Tryd.ntmps17
    go_wp2_with (go_at_call 24; refine (readNumber_any _ [] _ (Rd.zero _ _ _) (by simp) (by simp)).mono ?_; rintro e w' ⟨rfl, rfl⟩)
    all_goals
      refine bodyPost_ret (results_four rfl _ _ _) rfl ?_
      have h := HR.out
      rw [e3.out] at h
      have h4 : er = 20 := by injection h with _ h; injection h with _ h; exact h.symm
      rw [h4]
      exact UF.fail rfl
  · have hc3 : ¬ c = 2 := by omega
    go_enter Tryd.func17, Tryd.ntmps17
    go_wp2_with (go_at_call 24; refine (readNumber_any _ (l.drop 2) _ H2.out (fun c hc => HL.out c (List.mem_of_mem_drop hc)) (by simp; omega)).mono ?_; rintro e w' ⟨rfl, rfl⟩; rw [HR.out])
    refine bodyPost_ret (results_four rfl _ _ _) rfl ?_
    exact UF.fail rfl

/-- The shape of what came in, from two bytes on. -/
theorem shape2 {w : World} {v : Value} {l : List Nat} (hv : Rd w v l) (h2 : 2 ≤ l.length) (h165 : l.head? = some 165) :
    ∃ b off c, v = .slice (some ⟨b, off, none⟩) l.length c ∧ l.length ≤ c ∧ w.cell? ⟨b, off, none⟩ = some (.int .u8 165) ∧ w.cell? ⟨b, off + 1, none⟩ = some (.int .u8 ((l.getD 1 0 : Nat) : Int)) := by
  obtain ⟨A, c, rfl, hc, hrd⟩ := hv
  obtain ⟨b, off, rfl, _, hcell⟩ := hrd (by omega)
  refine ⟨b, off, c, rfl, hc, ?_, ?_⟩
  · have h := hcell 0 (by omega)
    rw [List.head?_eq_getElem?, List.getElem?_eq_getElem (by omega)] at h165
    injection h165 with h165
    rw [h165] at h
    exact h
  · have h := hcell 1 (by omega)
    rw [h]
    simp [List.getD, List.getElem?_eq_getElem (show 1 < l.length by omega)]

theorem Unframe_big (v : Value) (l : List Nat) (w : World) (n s : Nat) (hv : Rd w v l) (h2 : 2 < l.length) (h165 : l.head? = some 165) (hl : ∀ c ∈ l, c < 256) (hlen : l.length ≤ 9223372036854775807)
    (hr : rdn (l.drop 2) = (n, s, 0)) (hn : 1048576 < n) : Calls Tryd.prog 17 #[v] w (UF w 0 [] 0 21) := by
  have hv0 := hv
  obtain ⟨b, off, c, rfl, hc, h0, _⟩ := shape2 hv (by omega) h165
  have r2 := hv0.sub 2 (l.length - 2) (c - 2) (by omega) (by omega)
  have e2 : (l.drop 2).take (l.length - 2) = l.drop 2 := List.take_of_length_le (by simp)
  rw [e2] at r2
  have HR := hid hr
  have H2 := hid r2
  have HL := hid hl
  clear hv0 hv hr r2 e2 h165 hl
  have hc3 : ¬ c = 2 := by omega
  go_enter Tryd.func17, Tryd.ntmps17
  go_wp2_with (go_at_call 24; refine (readNumber_any _ (l.drop 2) _ H2.out (fun c hc => HL.out c (List.mem_of_mem_drop hc)) (by simp; omega)).mono ?_; rintro e w' ⟨rfl, rfl⟩; rw [HR.out])
  refine bodyPost_ret (results_four rfl _ _ _) rfl ?_
  exact UF.fail rfl

theorem Unframe_short (v : Value) (l : List Nat) (w : World) (n s : Nat) (hv : Rd w v l) (h2 : 2 < l.length) (h165 : l.head? = some 165) (hl : ∀ c ∈ l, c < 256) (hlen : l.length ≤ 9223372036854775807)
    (hr : rdn (l.drop 2) = (n, s, 0)) (hn : n ≤ 1048576) (hs : s ≤ 8) (hsl : 2 + s ≤ l.length) (hsh : l.length < 2 + s + 4 + n) : Calls Tryd.prog 17 #[v] w (UF w 0 [] 0 20) := by
  have hv0 := hv
  obtain ⟨b, off, c, rfl, hc, h0, _⟩ := shape2 hv (by omega) h165
  have r2 := hv0.sub 2 (l.length - 2) (c - 2) (by omega) (by omega)
  have e2 : (l.drop 2).take (l.length - 2) = l.drop 2 := List.take_of_length_le (by simp)
  rw [e2] at r2
  have HR := hid hr
  have H2 := hid r2
  have HL := hid hl
  clear hv0 hv hr r2 e2 h165 hl
  have hc3 : ¬ c = 2 := by omega
  have hc1 : ¬ c = 1 := by omega
  have hsz : ((l.length - (2 + s) : Nat) : Int) < 4 + n := by omega
  go_enter Tryd.func17, Tryd.ntmps17
  go_wp2_with (go_at_call 24; refine (readNumber_any _ (l.drop 2) _ H2.out (fun c hc => HL.out c (List.mem_of_mem_drop hc)) (by simp; omega)).mono ?_; rintro e w' ⟨rfl, rfl⟩; rw [HR.out])
  all_goals
    refine bodyPost_ret (results_four rfl _ _ _) rfl ?_
    exact UF.fail rfl

set_option maxRecDepth 100000 in
set_option maxHeartbeats 1000000 in
theorem Unframe_sum (v : Value) (l : List Nat) (w : World) (n s : Nat) (hv : Rd w v l) (h2 : 2 < l.length) (h165 : l.head? = some 165) (hl : ∀ c ∈ l, c < 256) (hlen : l.length ≤ 4611686018427387904) (hT : Tab w)
    (hr : rdn (l.drop 2) = (n, s, 0)) (hn : n ≤ 1048576) (hs : s ≤ 8) (hfull : 2 + s + 4 + n ≤ l.length)
    (hS : beN ((l.drop (2 + s)).take 4) ≠ crc ((l.drop 1).take (1 + s) ++ (l.drop (2 + s + 4)).take n)) : Calls Tryd.prog 17 #[v] w (UF w 0 [] 0 22) := by
  have hv0 := hv
  obtain ⟨b, off, c, rfl, hc, h0, _⟩ := shape2 hv (by omega) h165
  have r2 := hv0.sub 2 (l.length - 2) (c - 2) (by omega) (by omega)
  have e2 : (l.drop 2).take (l.length - 2) = l.drop 2 := List.take_of_length_le (by simp)
  rw [e2] at r2
  have e3 : (l.drop (2 + s)).take (l.length - (2 + s)) = l.drop (2 + s) := List.take_of_length_le (by simp)
  have hRest := fun c' (h : l.length - (2 + s) ≤ c') => e3 ▸ hv0.sub (2 + s) (l.length - (2 + s)) c' (by omega) h
  have hHead := fun c' (h : 1 + s ≤ c') => hv0.sub 1 (1 + s) c' (by omega) h
  have hIn := fun c' (h : n ≤ c') => hv0.sub (2 + s + 4) n c' (by omega) h
  rw [← Nat.add_assoc off (2 + s) 4] at hIn
  have hHL := fun c (h : c ∈ (l.drop 1).take (1 + s)) => hl c (List.mem_of_mem_drop (List.mem_of_mem_take h))
  have hRL := fun c (h : c ∈ l.drop (2 + s)) => hl c (List.mem_of_mem_drop h)
  have hIL := fun c (h : c ∈ (l.drop (2 + s + 4)).take n) => hl c (List.mem_of_mem_drop (List.mem_of_mem_take h))
  have nH : ((l.drop 1).take (1 + s)).length ≤ 1 + s := List.length_take_le _ _
  have nI : ((l.drop (2 + s + 4)).take n).length ≤ n := List.length_take_le _ _
  have nR : 4 ≤ (l.drop (2 + s)).length := by simp; omega
  have nR2 : (l.drop (2 + s)).length ≤ 4611686018427387904 := by simp; omega
  clear e2 e3
  generalize (l.drop 1).take (1 + s) = LH at *
  generalize (l.drop (2 + s + 4)).take n = LI at *
  generalize l.drop (2 + s) = LR at *
  have HRest := hid hRest
  have HHead := hid hHead
  have HIn := hid hIn
  have HR := hid hr
  have H2 := hid r2
  have HL := hid hl
  have HT := hid hT
  have HHL := hid hHL
  have HRL := hid hRL
  have HIL := hid hIL
  clear hv0 hv hr r2 h165 hl hT hRest hHead hIn hHL hRL hIL
  have hc3 : ¬ c = 2 := by omega
  have hc1 : ¬ c = 1 := by omega
  have hc2 : ¬ c = 2 + s := by omega
  have hsz : (4 : Int) + n ≤ ((l.length - (2 + s) : Nat) : Int) := by omega
  obtain ⟨S1, h1e⟩ : ∃ S1, beN (LR.take 4) = S1 := ⟨_, rfl⟩
  obtain ⟨S2, h2e⟩ : ∃ S2, crc (LH ++ LI) = S2 := ⟨_, rfl⟩
  rw [h1e, h2e] at hS
  have hb1 : ((S1 : Int) == (S2 : Int)) = false := by rw [beq_eq_false_iff_ne]; omega
  have hb2 : ((S1 : Int) != (S2 : Int)) = true := by rw [bne_iff_ne]; omega
  have HS1 := hid h1e
  have HS2 := hid h2e
  clear h1e h2e hS
  by_cases hc4 : c = 2 + s + 4
  · obtain rfl : n = 0 := by omega
    have hI0 := hid (List.eq_nil_of_length_eq_zero (show LI.length = 0 by omega))
    subst hc4
    go_enter Tryd.func17, Tryd.ntmps17
    go_wp2_with (first
      | (go_at_call 24; refine (readNumber_any _ (l.drop 2) _ H2.out (fun c hc => HL.out c (List.mem_of_mem_drop hc)) (by simp; omega)).mono ?_; rintro e w' ⟨rfl, rfl⟩; rw [HR.out])
      | (go_at_call 25; refine (readSum_any _ LR _ (HRest.out _ (by omega)) HRL.out nR (by omega)).mono ?_; rintro e w' ⟨rfl, rfl⟩; rw [HS1.out])
      | (go_at_call 22; refine (frameSum_any _ _ LH LI _ (HHead.out _ (by omega)) (hI0.out ▸ Rd.zero _ _ _) HHL.out HIL.out HT.out (by omega) (by omega)).mono ?_; rintro e w' ⟨rfl, rfl⟩; rw [HS2.out]))
    refine bodyPost_ret (results_four rfl _ _ _) rfl ?_
    exact UF.fail rfl
  · have hc5 : ¬ c - (2 + s) = 4 := by omega
    go_enter Tryd.func17, Tryd.ntmps17
    go_wp2_with (first
      | (go_at_call 24; refine (readNumber_any _ (l.drop 2) _ H2.out (fun c hc => HL.out c (List.mem_of_mem_drop hc)) (by simp; omega)).mono ?_; rintro e w' ⟨rfl, rfl⟩; rw [HR.out])
      | (go_at_call 25; refine (readSum_any _ LR _ (HRest.out _ (by omega)) HRL.out nR (by omega)).mono ?_; rintro e w' ⟨rfl, rfl⟩; rw [HS1.out])
      | (go_at_call 22; refine (frameSum_any _ _ LH LI _ (HHead.out _ (by omega)) (HIn.out _ (by omega)) HHL.out HIL.out HT.out (by omega) (by omega)).mono ?_; rintro e w' ⟨rfl, rfl⟩; rw [HS2.out]))
    refine bodyPost_ret (results_four rfl _ _ _) rfl ?_
    exact UF.fail rfl

set_option maxRecDepth 100000 in
set_option maxHeartbeats 4000000 in
theorem Unframe_ok (v : Value) (l : List Nat) (w : World) (n s : Nat) (hv : Rd w v l) (h2 : 2 < l.length) (h165 : l.head? = some 165) (hl : ∀ c ∈ l, c < 256) (hlen : l.length ≤ 4611686018427387904) (hT : Tab w)
    (hr : rdn (l.drop 2) = (n, s, 0)) (hn : n ≤ 1048576) (hs : s ≤ 8) (hfull : 2 + s + 4 + n ≤ l.length)
    (hS : beN ((l.drop (2 + s)).take 4) = crc ((l.drop 1).take (1 + s) ++ (l.drop (2 + s + 4)).take n)) : Calls Tryd.prog 17 #[v] w (UF w (l.getD 1 0) ((l.drop (2 + s + 4)).take n) (2 + s + 4 + n) 0) := by
  have hv0 := hv
  obtain ⟨b, off, c, rfl, hc, h0, h1⟩ := shape2 hv (by omega) h165
  have r2 := hv0.sub 2 (l.length - 2) (c - 2) (by omega) (by omega)
  have e2 : (l.drop 2).take (l.length - 2) = l.drop 2 := List.take_of_length_le (by simp)
  rw [e2] at r2
  have e3 : (l.drop (2 + s)).take (l.length - (2 + s)) = l.drop (2 + s) := List.take_of_length_le (by simp)
  have hRest := fun c' (h : l.length - (2 + s) ≤ c') => e3 ▸ hv0.sub (2 + s) (l.length - (2 + s)) c' (by omega) h
  have hHead := fun c' (h : 1 + s ≤ c') => hv0.sub 1 (1 + s) c' (by omega) h
  have hIn := fun c' (h : n ≤ c') => hv0.sub (2 + s + 4) n c' (by omega) h
  rw [← Nat.add_assoc off (2 + s) 4] at hIn
  have hHL := fun c (h : c ∈ (l.drop 1).take (1 + s)) => hl c (List.mem_of_mem_drop (List.mem_of_mem_take h))
  have hRL := fun c (h : c ∈ l.drop (2 + s)) => hl c (List.mem_of_mem_drop h)
  have hIL := fun c (h : c ∈ (l.drop (2 + s + 4)).take n) => hl c (List.mem_of_mem_drop (List.mem_of_mem_take h))
  have nH : ((l.drop 1).take (1 + s)).length ≤ 1 + s := List.length_take_le _ _
  have nI : ((l.drop (2 + s + 4)).take n).length ≤ n := List.length_take_le _ _
  have nR : 4 ≤ (l.drop (2 + s)).length := by simp; omega
  have nR2 : (l.drop (2 + s)).length ≤ 4611686018427387904 := by simp; omega
  clear e2 e3
  generalize (l.drop 1).take (1 + s) = LH at *
  generalize (l.drop (2 + s + 4)).take n = LI at *
  generalize l.drop (2 + s) = LR at *
  have HRest := hid hRest
  have HHead := hid hHead
  have HIn := hid hIn
  have HInD := hid (fun c' (h : n ≤ c') => show Rd w.drew _ LI from hIn c' h)
  have HB := hid (World.block_lt_of_cell? w _ h0)
  have h1d : w.drew.cell? ⟨b, off + 1, none⟩ = some (.int .u8 ((l.getD 1 0 : Nat) : Int)) := h1
  have hkk : l.getD 1 0 < 256 := by
    rw [List.getD_eq_getElem?_getD, List.getElem?_eq_getElem (show 1 < l.length by omega)]
    exact hl _ (List.getElem_mem _)
  generalize l.getD 1 0 = kk at *
  have HR := hid hr
  have H2 := hid r2
  have HL := hid hl
  have HT := hid hT
  have HHL := hid hHL
  have HRL := hid hRL
  have HIL := hid hIL
  clear hv0 hv hr r2 h165 hl hT hRest hHead hIn hHL hRL hIL
  have hc3 : ¬ c = 2 := by omega
  have hl1 : (1 : Int) < (l.length : Int) := by omega
  have hl1' : 1 < l.length := by omega
  have hc1 : ¬ c = 1 := by omega
  have hc2 : ¬ c = 2 + s := by omega
  have hsz : (4 : Int) + n ≤ ((l.length - (2 + s) : Nat) : Int) := by omega
  obtain ⟨S1, h1e⟩ : ∃ S1, crc (LH ++ LI) = S1 := ⟨_, rfl⟩
  rw [h1e] at hS
  have HS1 := hid hS
  have HS2 := hid h1e
  clear hS h1e
  by_cases hc4 : c = 2 + s + 4
  · obtain rfl : n = 0 := by omega
    have hI0 := hid (List.eq_nil_of_length_eq_zero (show LI.length = 0 by omega))
    subst hc4
    go_enter Tryd.func17, Tryd.ntmps17
    go_wp2_with (first
      | (go_at_call 24; refine (readNumber_any _ (l.drop 2) _ H2.out (fun c hc => HL.out c (List.mem_of_mem_drop hc)) (by simp; omega)).mono ?_; rintro e w' ⟨rfl, rfl⟩; rw [HR.out])
      | (go_at_call 25; refine (readSum_any _ LR _ (HRest.out _ (by omega)) HRL.out nR (by omega)).mono ?_; rintro e w' ⟨rfl, rfl⟩; rw [HS1.out])
      | (go_at_call 22; refine (frameSum_any _ _ LH LI _ (HHead.out _ (by omega)) (hI0.out ▸ Rd.zero _ _ _) HHL.out HIL.out HT.out (by omega) (by omega)).mono ?_; rintro e w' ⟨rfl, rfl⟩; rw [HS2.out]))
    go_region_held3 (fun w' => w'.cell? ⟨b, off + 1, none⟩ = some (.int .u8 (kk : Int))) (first | exact h1d | exact h1w | go_keep) (first | (go_at_call 26; refine (Clone_any _ LI _ (hI0.out ▸ Rd.zero _ _ _) (by omega)).mono ?_; rintro e w1 ⟨u, rfl, ou, bu⟩; have h1w := (bu.cell (p := ⟨b, off + 1, none⟩) HB.out).trans h1d))
    all_goals
      go_wp2
      refine bodyPost_ret (results_four rfl _ _ _) rfl ?_
      refine ⟨u, ret_four (int_eq ?_) rfl (int_eq ?_) rfl, ou.rd, ⟨bu.os, bu.tape, bu.output, bu.size, bu.block⟩⟩
      · exact IntWalk.i64_in _ (by omega)
      · exact sum2 hs
  · have hc5 : ¬ c - (2 + s) = 4 := by omega
    go_enter Tryd.func17, Tryd.ntmps17
    go_wp2_with (first
      | (go_at_call 24; refine (readNumber_any _ (l.drop 2) _ H2.out (fun c hc => HL.out c (List.mem_of_mem_drop hc)) (by simp; omega)).mono ?_; rintro e w' ⟨rfl, rfl⟩; rw [HR.out])
      | (go_at_call 25; refine (readSum_any _ LR _ (HRest.out _ (by omega)) HRL.out nR (by omega)).mono ?_; rintro e w' ⟨rfl, rfl⟩; rw [HS1.out])
      | (go_at_call 22; refine (frameSum_any _ _ LH LI _ (HHead.out _ (by omega)) (HIn.out _ (by omega)) HHL.out HIL.out HT.out (by omega) (by omega)).mono ?_; rintro e w' ⟨rfl, rfl⟩; rw [HS2.out]))
    go_region_held3 (fun w' => w'.cell? ⟨b, off + 1, none⟩ = some (.int .u8 (kk : Int))) (first | exact h1d | exact h1w | go_keep) (first | (go_at_call 26; refine (Clone_any _ LI _ (HInD.out _ (by omega)) (by omega)).mono ?_; rintro e w1 ⟨u, rfl, ou, bu⟩; have h1w := (bu.cell (p := ⟨b, off + 1, none⟩) HB.out).trans h1d))
    all_goals
      go_wp2
      refine bodyPost_ret (results_four rfl _ _ _) rfl ?_
      refine ⟨u, ret_four (int_eq ?_) rfl (int_eq ?_) rfl, ou.rd, ⟨bu.os, bu.tape, bu.output, bu.size, bu.block⟩⟩
      · exact IntWalk.i64_in _ (by omega)
      · exact sum3 hs hn
end Go.Proofs.YtpcmonebihgjhaaDoor
