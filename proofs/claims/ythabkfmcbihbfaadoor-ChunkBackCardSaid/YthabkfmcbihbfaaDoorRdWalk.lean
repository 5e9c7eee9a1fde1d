/-
  What codec.readNumber and bytes.Clone answer: what rdn says of the bytes; a copy. Conditions: the slice reads as bytes.
-/
import Derived.Test.YthabkfmcbihbfaaDoorRdn
import Derived.Test.YthabkfmcbihbfaaDoorWrite
import Derived.Laws.BitsLemmas
namespace Go.Proofs.YthabkfmcbihbfaaDoor
open Go.RowKit Go.Icz

theorem or_join {k a d : Nat} (ha : a < 128 ^ k) (hd : d < 128) (hk : k ≤ 7) : bits .or .i64 (a : Int) ((d * 128 ^ k : Nat) : Int) = ((a + d * 128 ^ k : Nat) : Int) := by
  have hp : 128 ^ k ≤ 128 ^ 7 := Nat.pow_le_pow_right (by omega) hk
  have hm : d * 128 ^ k ≤ 127 * 128 ^ 7 := Nat.mul_le_mul (by omega) hp
  have e : 128 ^ k = 2 ^ (7 * k) := by rw [Nat.pow_mul]
  rw [(bits_nat .i64 62 (by decide) (fun n h0 h1 => by rw [IntKind.wrap_i64]; omega) a (d * 128 ^ k) (by omega) (by omega)).2]
  rw [e] at ha ⊢
  rw [Nat.or_comm, Nat.mul_comm d, ← Nat.two_pow_add_eq_or_of_lt ha d, Nat.add_comm]
theorem andNot128 {x : Nat} (hx : x < 256) : bits .andNot .u8 (x : Int) 128 = ((x % 128 : Nat) : Int) := by
  have h := u8_andNot_nat x 128 hx (by omega)
  rw [show x &&& (255 - 128) = x % 128 from Nat.and_two_pow_sub_one_eq_mod x 7] at h
  exact h
/-- One byte's step, in the walk's spelling. -/
theorem rd_facts {x k a : Nat} (hx : x < 256) (hk : k ≤ 7) (ha : a < 128 ^ k) :
    ∃ d y a2 : Nat, bits .andNot .u8 (x : Int) 128 = (d : Int) ∧ d < 128 ∧ wrap64 ((d : Int) * 2 ^ (7 * k)) = (y : Int) ∧ bits .or .i64 (a : Int) (y : Int) = (a2 : Int) ∧ a2 = a + x % 128 * 128 ^ k ∧ a2 < 128 ^ (k + 1) := by
  have hp : 128 ^ k ≤ 128 ^ 7 := Nat.pow_le_pow_right (by omega) hk
  have hm : x % 128 * 128 ^ k ≤ 127 * 128 ^ k := Nat.mul_le_mul_right _ (by omega)
  refine ⟨x % 128, x % 128 * 128 ^ k, a + x % 128 * 128 ^ k, andNot128 hx, by omega, ?_, or_join ha (by omega) hk, rfl, by rw [Nat.pow_succ]; omega⟩
  have e : ((x % 128 : Nat) : Int) * 2 ^ (7 * k) = ((x % 128 * 128 ^ k : Nat) : Int) := by
    rw [Nat.pow_mul' 2 7 k |> fun _ => (show (128 : Nat) ^ k = 2 ^ (7 * k) by rw [Nat.pow_mul])]
    simp
  rw [e]
  exact IntWalk.wrap64_in _ ⟨by omega, by omega⟩

set_option maxRecDepth 100000 in
set_option maxHeartbeats 400000 in
theorem readNumber_any (v : Value) (l : List Nat) (w : World) (hv : Rd w v l) (hl : ∀ c ∈ l, c < 256) (hlen : l.length ≤ 9223372036854775807) :
    Calls Tryd.prog 69 #[v] w fun e w' => e = .returned (.tuple #[.int .i64 ((rdn l).1 : Int), .int .i64 ((rdn l).2.1 : Int), .int .i64 ((rdn l).2.2 : Int)]) ∧ w = w' := by
  obtain ⟨A, c, rfl, hc, hcell⟩ := hv
  have HC := hid hcell
  have HL := hid hl
  clear hcell hl
  go_enter Tryd.func69, Tryd.ntmps69
  go_wp2
  go_loop [2, 9] (fun x i => ∃ k a : Nat, k ≤ l.length ∧ k ≤ 7 ∧ i = .int .i64 k ∧ x = .int .i64 (a : Int) ∧ a < 128 ^ k ∧ rdGo (l.drop k) k a = rdn l) (fun _ i => l.length - (intOf i).toNat)
  case atStart => exact ⟨0, 0, Nat.zero_le _, by omega, rfl, rfl, by decide, rfl⟩
  case round =>
    obtain ⟨k, a, hk, hk7, rfl, rfl, ha, hg⟩ := hrel
    by_cases hlt : k < l.length
    · obtain ⟨b, off, rfl, hb, hcl⟩ := HC.out (by omega)
      have hck := hcl k hlt
      clear hcl
      have hx := HL.out l[k] (List.getElem_mem hlt)
      rw [List.drop_eq_getElem_cons hlt] at hg
      generalize l[k] = x at *
      obtain ⟨d, y, a2, e1, hd, e2, e3, ha2, ha3⟩ := rd_facts hx hk7 ha
      have HA := hid ha3
      by_cases hx1 : (x : Int) < 128
      · by_cases hx0 : x = 0 ∧ 0 < k
        · have HG := hid ((rdGo_bad (by omega) (.inr hx0)).symm.trans hg)
          obtain ⟨rfl, hk0⟩ := hx0
          clear ha ha2 ha3 hg
          go_wp2
          go_ret3
          rw [← HG.out]
          exact ⟨rfl, rfl⟩
        · have hg2 : (a2, k + 1, 0) = rdn l := by rw [← hg, rdGo_end (by omega) (by omega), ha2, Nat.mod_eq_of_lt (by omega)]
          have HG := hid hg2
          clear ha ha2 ha3 hg hg2
          by_cases hx3 : x = 0
          · have hx4 : ((x : Int) == 0) = true := by rw [beq_iff_eq]; omega
            have hk0 : decide (0 < k) = false := decide_eq_false (by omega)
            have hk1 : ¬ 0 < k := by omega
            clear hx3
            go_wp2
            go_ret3
            rw [← HG.out]
            exact ⟨by go_num, rfl⟩
          · have hx4 : ((x : Int) == 0) = false := by rw [beq_eq_false_iff_ne]; omega
            go_wp2
            go_ret3
            rw [← HG.out]
            exact ⟨by go_num, rfl⟩
      · by_cases hk6 : (k : Int) < 7
        · have hg2 : rdGo (l.drop (k + 1)) (k + 1) a2 = rdn l := by rw [← hg, rdGo_more (by omega) (by omega), ha2]
          have HG := hid hg2
          clear ha ha2 ha3 hg hg2
          go_wp2
          go_round
          case rel => exact ⟨k + 1, a2, by omega, by omega, by go_num, rfl, HA.out, HG.out⟩
          case measure => simp [intOf]; omega
        · have HG := hid ((rdGo_bad (by omega) (.inl (by omega))).symm.trans hg)
          clear ha ha2 ha3 hg
          go_wp2
          go_ret3
          rw [← HG.out]
          exact ⟨rfl, rfl⟩
    · have hd : decide (k < l.length) = false := decide_eq_false hlt
      rw [List.drop_eq_nil_of_le (by omega)] at hg
      have HG := hid hg
      clear hg ha
      go_wp2
      go_ret3
      rw [← HG.out]
      exact ⟨rfl, rfl⟩

theorem Clone_any (v : Value) (l : List Nat) (w : World) (hv : Rd w v l) (hlen : l.length ≤ 140737488355328) :
    Calls Tryd.prog 52 #[v] w fun e w' => ∃ u, e = .returned u ∧ Own w' w.heap.size u l ∧ Below w.heap.size w w' := by
  have HV := hid hv
  obtain ⟨A, c, rfl, _, hr⟩ := hv
  rcases A with _ | a
  · have hl : l = [] := by
      rcases Nat.eq_zero_or_pos l.length with h | h
      · exact List.eq_nil_of_length_eq_zero h
      · obtain ⟨_, _, h, _⟩ := hr h
        cases h
    subst hl
    clear hr HV
    have hn := Lib.run_eql_slice_nil (P := Tryd.prog)
    go_enter Tryd.func52, Tryd.ntmps52
    go_wp2
    go_ret
    exact ⟨_, rfl, Own.nil _ _, Below.refl _ _⟩
  · clear hr
    have hn := Lib.run_eql_slice_nil (P := Tryd.prog)
    go_enter Tryd.func52, Tryd.ntmps52
    go_wp2_with (at_builtin; refine wp_appR std rfl (.tmp 5) (.tmp 6) rfl w.heap.size _ _ [] l rfl (Own.made w (Nat.le_refl _)) rfl (HV.out.alloc _) ?_ ?_ ?_; (focus (simp; omega)); (focus (simp; done)); intro v1 w1 o1 b1)
    go_ret
    exact ⟨_, rfl, o1, below_allocT (Nat.le_refl _) b1⟩
end Go.Proofs.YthabkfmcbihbfaaDoor
