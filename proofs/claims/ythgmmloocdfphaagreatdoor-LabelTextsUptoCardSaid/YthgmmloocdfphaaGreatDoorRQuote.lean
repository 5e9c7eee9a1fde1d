/-
  What the reference's Quote and escape answer. Conditions: those that each theorem names.
-/
import Derived.Test.YthgmmloocdfphaaGreatDoorRHex
namespace Go.Proofs.YthgmmloocdfphaaGreatDoor
open Go.RowKit Go.Icz

theorem rd_lit2 (w : World) (a b : Nat) : Rd (w.alloc (.cells #[.int .u8 (a : Int), .int .u8 (b : Int)] 5)) (.slice (some ⟨w.heap.size, 0, none⟩) 2 2) [a, b] := by
  refine ⟨_, 2, rfl, Nat.le_refl _, fun _ => ⟨w.heap.size, 0, rfl, by simp, fun j hj => ?_⟩⟩
  simp only [List.length_cons, List.length_nil] at hj
  rw [cell_of_row _ _ _ _ _ _ (heap_alloc_new w (.cells _ _))]
  match j, hj with
  | 0, _ => rfl
  | 1, _ => rfl
theorem rd_lit3 (w : World) (a b c : Nat) : Rd (w.alloc (.cells #[.int .u8 (a : Int), .int .u8 (b : Int), .int .u8 (c : Int)] 5)) (.slice (some ⟨w.heap.size, 0, none⟩) 3 3) [a, b, c] := by
  refine ⟨_, 3, rfl, Nat.le_refl _, fun _ => ⟨w.heap.size, 0, rfl, by simp, fun j hj => ?_⟩⟩
  simp only [List.length_cons, List.length_nil] at hj
  rw [cell_of_row _ _ _ _ _ _ (heap_alloc_new w (.cells _ _))]
  match j, hj with
  | 0, _ => rfl
  | 1, _ => rfl
  | 2, _ => rfl
/-- Bytes as numbers. -/
def ns (l : B8) : List Nat := l.map UInt8.toNat
theorem ns_app (a b : B8) : ns (a ++ b) = ns a ++ ns b := by simp [ns]
theorem ns_len (a : B8) : (ns a).length = a.length := by simp [ns]
theorem str_ns (l : B8) : str (ns l) = ⟨l.toArray⟩ := by
  unfold str ns
  rw [List.map_map]
  have : (fun n : Nat => UInt8.ofNat n) ∘ UInt8.toNat = id := by funext b; simp
  rw [this, List.map_id]
theorem nats_hex {n : Nat} (_h : n < 128) : nats (str (hexN n)) = ns ((hexN n).map UInt8.ofNat) := rfl
theorem qb_len (c : UInt8) : (qb c).length ≤ 6 := by
  by_cases h : c.toNat < 128
  · rw [qb_qr c h]; exact qr_len _
  · rw [qb_hi c (by omega)]; simp
theorem flat_len : ∀ l : B8, (l.flatMap qb).length ≤ 6 * l.length
  | [] => by simp
  | c :: t => by
    have h1 := qb_len c
    have h2 := flat_len t
    rw [List.flatMap_cons, List.length_append, List.length_cons]
    omega
/-- How a byte is written. -/
theorem qb_cases (c : UInt8) : ((c.toNat = 34 ∨ c.toNat = 92) ∧ ns (qb c) = [92, c.toNat]) ∨ (c.toNat = 10 ∧ ns (qb c) = [92, 110]) ∨
    ((c.toNat < 32 ∨ c.toNat = 127) ∧ c.toNat ≠ 10 ∧ ns (qb c) = [92, 117, 123] ++ nats (str (hexN c.toNat)) ++ [125]) ∨
    (32 ≤ c.toNat ∧ c.toNat ≠ 34 ∧ c.toNat ≠ 92 ∧ c.toNat ≠ 127 ∧ ns (qb c) = [c.toNat]) := by
  have e : ∀ n, n < 256 → (c = UInt8.ofNat n ↔ c.toNat = n) := fun n hn => toNat_lit hn
  have e1 := e 34 (by omega); have e2 := e 92 (by omega); have e3 := e 10 (by omega); have e4 := e 127 (by omega)
  have k1 : (UInt8.ofNat 34) = 34 := rfl
  have k2 : (UInt8.ofNat 92) = 92 := rfl
  have k3 : (UInt8.ofNat 10) = 10 := rfl
  have k4 : (UInt8.ofNat 127) = 127 := rfl
  rw [k1] at e1; rw [k2] at e2; rw [k3] at e3; rw [k4] at e4
  unfold qb
  simp only [e1, e2, e3, e4]
  by_cases h1 : c.toNat = 34 ∨ c.toNat = 92
  · rw [if_pos h1]; exact .inl ⟨h1, rfl⟩
  rw [if_neg h1]
  by_cases h2 : c.toNat = 10
  · rw [if_pos h2]; exact .inr (.inl ⟨h2, rfl⟩)
  rw [if_neg h2]
  by_cases h3 : c.toNat < 32 ∨ c.toNat = 127
  · rw [if_pos h3]
    refine .inr (.inr (.inl ⟨h3, h2, ?_⟩))
    rw [nats_hex (by omega), ns_app, ns_app]
    rfl
  rw [if_neg h3]
  exact .inr (.inr (.inr ⟨by omega, by omega, by omega, by omega, rfl⟩))
set_option maxHeartbeats 4000000 in
set_option maxRecDepth 100000 in
theorem RQuote_is (s : ByteArray) (w : World) (hs : s.size ≤ 17592186044416) :
    Calls Tryz.prog 46 #[.string s] w fun e w' => e = .returned (.string ⟨(quoteS s.data.toList).toArray⟩) ∧ Below w.heap.size w w' := by
  have hG := Good_is s.data.toList w (by rw [size_len]; omega)
  rw [mk_data] at hG
  cases hv : Lib.validD s.data.toList with
  | false =>
    have HQ : Hid (quoteS s.data.toList = []) := hid (by unfold quoteS; rw [hv]; rfl)
    rw [hv] at hG
    clear hv
    go_enter Tryz.func46, Tryz.ntmps46
    go_wp2_with (go_at_call 62; refine hG.mono ?_; rintro e w1 ⟨rfl, rfl⟩)
    go_ret
    exact ⟨by rw [HQ.out]; rfl, Below.refl _ _⟩
  | true =>
    have HQ : Hid (quoteS s.data.toList = [34] ++ s.data.toList.flatMap qb ++ [34]) := hid (by unfold quoteS; rw [if_pos hv, qbody_bytes _ hv])
    rw [hv] at hG
    clear hv
    go_enter Tryz.func46, Tryz.ntmps46
    go_wp2_with (go_at_call 62; refine hG.mono ?_; rintro e w1 ⟨rfl, rfl⟩)
    go_loopw [3, 4] (fun v iv wr => ∃ (k : Nat), iv = .int .i64 k ∧ k ≤ s.size ∧ Own wr w1.heap.size v (34 :: ns ((s.data.toList.take k).flatMap qb)) ∧ Below w1.heap.size w1 wr) (fun _ iv _ => s.size - (intOf iv).toNat)
    case atStart => exact ⟨0, rfl, by omega, Own.one w1 34 (Nat.le_refl _), (Below.refl _ _).alloc (Nat.le_refl _) _⟩
    case round =>
      obtain ⟨k, rfl, hk, hown, hb⟩ := hrel
      have hf := hb.size
      have hfl := flat_len (s.data.toList.take k)
      have hkl : (s.data.toList.take k).length ≤ s.size := by rw [List.length_take, size_len]; omega
      have hnl := ns_len ((s.data.toList.take k).flatMap qb)
      by_cases hlt : k < s.size
      · have hstep : ns ((s.data.toList.take (k + 1)).flatMap qb) = ns ((s.data.toList.take k).flatMap qb) ++ ns (qb s[k]) := by
          rw [List.take_succ_eq_append_getElem (by rw [size_len]; exact hlt), List.flatMap_append, ns_app]
          simp
          rfl
        have HS := hid hstep
        have hc := qb_cases s[k]
        have hc2 : (s[k]).toNat < 256 := (s[k]).toNat_lt
        have hll : (34 :: ns ((s.data.toList.take k).flatMap qb)).length ≤ 6 * s.size + 1 := by rw [List.length_cons]; omega
        clear hstep hfl hkl hnl
        generalize ns ((s.data.toList.take k).flatMap qb) = l at *
        generalize hE : ns (qb s[k]) = m at *
        clear hE
        have key : ∀ v' w2, Own w2 w1.heap.size v' (34 :: l ++ m) → Below w1.heap.size wr w2 → ∃ j : Nat, Value.int IntKind.i64 ((k : Int) + 1) = .int .i64 j ∧ j ≤ s.size ∧ Own w2 w1.heap.size v' (34 :: ns ((s.data.toList.take j).flatMap qb)) ∧ Below w1.heap.size w1 w2 := fun v' w2 h1 h2 =>
          ⟨k + 1, by go_num, by omega, by rw [HS.out]; exact h1, hb.trans h2⟩
        rcases hc with ⟨hc, rfl⟩ | ⟨hc, rfl⟩ | ⟨hc, hc10, rfl⟩ | ⟨h32, n34, n92, n127, rfl⟩
        · rcases hc with hc | hc
          · have e1 : (((s[k]).toNat : Int) == 34) = true := by simp; omega
            have e0 : ((s[k]).toNat : Int) = 34 := by omega
            rw [hc] at key
            clear hc
            go_wp2_with (at_builtin; refine wp_appR std rfl (.tmp 30) (.tmp 32) rfl w1.heap.size _ _ (34 :: l) [92, 34] rfl (hown.alloc _) rfl (rd_lit2 _ _ _) (by simp at hll ⊢; omega) (by simp; omega) ?_; intro v' w2 hown' hb'; clear hown)
            refine ⟨key _ _ hown' (below_alloc hf hb'), ?_⟩
            simp [intOf]
            omega
          · have e1 : (((s[k]).toNat : Int) == 34) = false := by simp; omega
            have e2 : (((s[k]).toNat : Int) == 92) = true := by simp; omega
            have e0 : ((s[k]).toNat : Int) = 92 := by omega
            rw [hc] at key
            clear hc
            go_wp2_with (at_builtin; refine wp_appR std rfl (.tmp 30) (.tmp 32) rfl w1.heap.size _ _ (34 :: l) [92, 92] rfl (hown.alloc _) rfl (rd_lit2 _ _ _) (by simp at hll ⊢; omega) (by simp; omega) ?_; intro v' w2 hown' hb'; clear hown)
            refine ⟨key _ _ hown' (below_alloc hf hb'), ?_⟩
            simp [intOf]
            omega
        · have e1 : (((s[k]).toNat : Int) == 34) = false := by simp; omega
          have e2 : (((s[k]).toNat : Int) == 92) = false := by simp; omega
          have e3 : (((s[k]).toNat : Int) == 10) = true := by simp; omega
          go_wp2_with (at_builtin; refine wp_appR std rfl (.tmp 37) (.tmp 38) rfl w1.heap.size _ _ (34 :: l) [92, 110] rfl (hown.alloc _) rfl (rd_lit2 _ _ _) (by simp at hll ⊢; omega) (by simp; omega) ?_; intro v' w2 hown' hb'; clear hown)
          refine ⟨key _ _ hown' (below_alloc hf hb'), ?_⟩
          simp [intOf]
          omega
        · have e1 : (((s[k]).toNat : Int) == 34) = false := by simp; omega
          have e2 : (((s[k]).toNat : Int) == 92) = false := by simp; omega
          have e3 : (((s[k]).toNat : Int) == 10) = false := by simp; omega
          rcases hc with hc | hc
          · have hsz2 : (str (hexN (s[k]).toNat)).size ≤ 2 := by
              have := hexN_two (n := (s[k]).toNat) (by omega)
              rw [str, Lib.size_mk, List.length_map]
              exact this
            have HR := fun w => RHex_is (s[k]).toNat (by omega) w
            generalize str (hexN (s[k]).toNat) = hx at *
            have hnx := nats_len hx
            have e4 : ((s[k]).toNat : Int) < 32 := by omega
            go_wp2_with (first
              | (at_builtin; refine wp_appR std rfl (.tmp 47) (.tmp 48) rfl w1.heap.size _ _ (34 :: l) [92, 117, 123] rfl (hown.alloc _) rfl (rd_lit3 _ _ _ _) (by simp at hll ⊢; omega) (by simp; omega) ?_; intro v1 w2 hown1 hb1; clear hown)
              | (go_at_call 88; refine (HR _).mono ?_; rintro e w3 ⟨rfl, hb2⟩)
              | (at_builtin; refine wp_appS std rfl (.tmp 49) (.tmp 52) rfl w1.heap.size _ (34 :: l ++ [92, 117, 123]) hx rfl (hown1.below hb2) rfl (by simp at hll ⊢; omega) (by have := hb1.size; have := hb2.size; simp at *; omega) ?_; intro v2 w4 hown2 hb3)
              | (at_builtin; refine wp_app1 std rfl (.tmp 53) (.tmp 54) rfl w1.heap.size _ (34 :: l ++ [92, 117, 123] ++ nats hx) 125 rfl hown2 rfl (by simp at hll ⊢; omega) (by have := hb1.size; have := hb2.size; have := hb3.size; simp at *; omega) ?_; intro v3 w5 hown3 hb4 _))
            have hz1 := hb1.size
            simp at hz1
            refine ⟨key _ _ (by simpa only [List.append_assoc] using hown3) (below_alloc hf (hb1.trans ((hb2.mono (by omega)).trans (hb3.trans hb4)))), ?_⟩
            simp [intOf]
            omega
          · have hsz2 : (str (hexN 127)).size ≤ 2 := by
              have := hexN_two (n := 127) (by omega)
              rw [str, Lib.size_mk, List.length_map]
              exact this
            have HR := fun w => RHex_is 127 (by omega) w
            have e4 : ¬ ((s[k]).toNat : Int) < 32 := by omega
            have e5 : (((s[k]).toNat : Int) == 127) = true := by simp; omega
            have e0 : ((s[k]).toNat : Int) = 127 := by omega
            rw [hc] at key
            clear hc hc10
            generalize str (hexN 127) = hx at *
            have hnx := nats_len hx
            go_wp2_with (first
              | (at_builtin; refine wp_appR std rfl (.tmp 47) (.tmp 48) rfl w1.heap.size _ _ (34 :: l) [92, 117, 123] rfl (hown.alloc _) rfl (rd_lit3 _ _ _ _) (by simp at hll ⊢; omega) (by simp; omega) ?_; intro v1 w2 hown1 hb1; clear hown)
              | (go_at_call 88; refine (HR _).mono ?_; rintro e w3 ⟨rfl, hb2⟩)
              | (at_builtin; refine wp_appS std rfl (.tmp 49) (.tmp 52) rfl w1.heap.size _ (34 :: l ++ [92, 117, 123]) hx rfl (hown1.below hb2) rfl (by simp at hll ⊢; omega) (by have := hb1.size; have := hb2.size; simp at *; omega) ?_; intro v2 w4 hown2 hb3)
              | (at_builtin; refine wp_app1 std rfl (.tmp 53) (.tmp 54) rfl w1.heap.size _ (34 :: l ++ [92, 117, 123] ++ nats hx) 125 rfl hown2 rfl (by simp at hll ⊢; omega) (by have := hb1.size; have := hb2.size; have := hb3.size; simp at *; omega) ?_; intro v3 w5 hown3 hb4 _))
            have hz1 := hb1.size
            simp at hz1
            refine ⟨key _ _ (by simpa only [List.append_assoc] using hown3) (below_alloc hf (hb1.trans ((hb2.mono (by omega)).trans (hb3.trans hb4)))), ?_⟩
            simp [intOf]
            omega
        · have e1 : (((s[k]).toNat : Int) == 34) = false := by simp; omega
          have e2 : (((s[k]).toNat : Int) == 92) = false := by simp; omega
          have e3 : (((s[k]).toNat : Int) == 10) = false := by simp; omega
          have e4 : ¬ (((s[k]).toNat : Int) < 32) := by omega
          have e5 : (((s[k]).toNat : Int) == 127) = false := by simp; omega
          go_wp2_with (at_builtin; refine wp_app1 std rfl (.tmp 19) (.tmp 21) rfl w1.heap.size _ (34 :: l) (s[k]).toNat rfl hown rfl (by simp at hll ⊢; omega) hf ?_; intro v' w2 hown' hb' _; clear hown)
          refine ⟨key _ _ hown' hb', ?_⟩
          simp [intOf]
          omega
      · obtain rfl : k = s.size := by omega
        have htk : s.data.toList.take s.size = s.data.toList := List.take_of_length_le (by rw [size_len]; omega)
        rw [htk] at hown hfl hnl
        have HR : Hid (str (34 :: ns (s.data.toList.flatMap qb) ++ [34]) = ⟨(quoteS s.data.toList).toArray⟩) := hid (by rw [HQ.out, ← str_ns]; simp [ns])
        rw [size_len] at hfl
        clear htk
        generalize ns (s.data.toList.flatMap qb) = l at *
        go_wp2_with (at_builtin; refine wp_app1 std rfl (.tmp 56) (.tmp 57) rfl w1.heap.size _ (34 :: l) 34 rfl hown rfl (by simp; omega) hf ?_; intro v' w2 hown' hb' _; clear hown; have hcv := conv_rd std hown'.rd)
        go_ret
        exact ⟨by rw [← HR.out]; rfl, hb.trans hb'⟩
end Go.Proofs.YthgmmloocdfphaaGreatDoor
