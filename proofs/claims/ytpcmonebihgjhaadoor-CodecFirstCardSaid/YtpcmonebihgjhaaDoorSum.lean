/-
  What codec.feed, codec.Sum and the reference's Sum answer: the CRC-32C of the bytes. Conditions: the slice reads as bytes, the table's variable holds its sixteen numbers.
-/
import Derived.Test.YtpcmonebihgjhaaDoorWrite
import Derived.Test.YtpcmonebihgjhaaDoorCrc
namespace Go.Proofs.YtpcmonebihgjhaaDoor
open Go.RowKit Go.Icy

/-- The table's variable holds its sixteen numbers. -/
def Tab (w : World) : Prop := ∀ i, i < 16 → w.cell? ⟨0, i, none⟩ = some (.int .u32 (tabN i : Int))
theorem Tab.pos {w : World} (h : Tab w) : 0 < w.heap.size := World.block_lt_of_cell? w _ (h 0 (by omega))
theorem Tab.below {w w' : World} (h : Tab w) (hb : Below w.heap.size w w') : Tab w' := fun i hi => (hb.cell (p := ⟨0, i, none⟩) h.pos).trans (h i hi)

theorem reg_take (r : Nat) (l : List Nat) (k : Nat) (h : k < l.length) : reg r (l.take (k + 1)) = byt (reg r (l.take k)) l[k] := by
  rw [List.take_succ_eq_append_getElem h, reg_app]
  rfl
theorem xor32 {a b : Nat} (ha : a < 4294967296) (hb : b < 4294967296) : bits .xor .u32 (a : Int) (b : Int) = ((a ^^^ b : Nat) : Int) := u32_xor_nat a b ha hb
theorem not32 {a : Nat} (ha : a < 4294967296) : bits .xor .u32 IntKind.u32.max (a : Int) = ((4294967295 ^^^ a : Nat) : Int) := u32_xor_nat 4294967295 a (by omega) ha
theorem and15 {a : Nat} (ha : a < 4294967296) : bits .and .u32 (a : Int) 15 = ((a % 16 : Nat) : Int) := by
  have h := u32_and_nat a 15 ha (by omega)
  rw [show a &&& 15 = a % 16 from Nat.and_two_pow_sub_one_eq_mod a 4] at h
  exact h
/-- One byte's step, in the walk's spelling. -/
theorem byte_facts {W : World} {R x : Nat} (hR : R < 4294967296) (hx : x < 256) (hT : Tab W) :
    ∃ a i t a1 i1 t1 a2 : Nat, a2 = byt R x ∧ bits .xor .u32 (R : Int) (x : Int) = (a : Int) ∧ bits .and .u32 (a : Int) 15 = (i : Int) ∧ i < 16 ∧ bits .xor .u32 (t : Int) ((a : Int) / 16) = (a1 : Int) ∧
      W.cell? ⟨0, i, none⟩ = some (.int .u32 (t : Int)) ∧ bits .and .u32 (a1 : Int) 15 = (i1 : Int) ∧ i1 < 16 ∧ W.cell? ⟨0, i1, none⟩ = some (.int .u32 (t1 : Int)) ∧ bits .xor .u32 (t1 : Int) ((a1 : Int) / 16) = (a2 : Int) := by
  have ha := xor_lt hR (show x < 4294967296 by omega)
  have ha1 := nib_lt ha
  have one : ∀ a : Nat, a < 4294967296 → bits .xor .u32 (tabN (a % 16) : Int) ((a : Int) / 16) = (nib a : Int) := fun a ha => by
    have h1 := tab_lt ⟨a % 16, Nat.mod_lt _ (by omega)⟩
    have h2 : ((a : Int) / 16) = ((a / 16 : Nat) : Int) := by omega
    rw [h2, xor32 h1 (by omega)]
    rfl
  exact ⟨R ^^^ x, (R ^^^ x) % 16, tabN ((R ^^^ x) % 16), nib (R ^^^ x), nib (R ^^^ x) % 16, tabN (nib (R ^^^ x) % 16), byt R x, rfl, xor32 hR (by omega), and15 ha, Nat.mod_lt _ (by omega), one _ ha, hT _ (Nat.mod_lt _ (by omega)),
    and15 ha1, Nat.mod_lt _ (by omega), hT _ (Nat.mod_lt _ (by omega)), one _ ha1⟩

set_option maxRecDepth 100000 in
set_option maxHeartbeats 400000 in
theorem feed_any (r : Nat) (v : Value) (l : List Nat) (w : World) (hr : r < 4294967296) (hl : ∀ c ∈ l, c < 256) (hv : Rd w v l) (hT : Tab w) (hlen : l.length ≤ 9223372036854775807) :
    Calls Tryd.prog 18 #[.int .u32 (r : Int), v] w fun e w' => e = .returned (.int .u32 (reg r l : Int)) ∧ w = w' := by
  obtain ⟨A, c, rfl, hc, hcell⟩ := hv
  have HC := hid hcell
  have HT := hid hT
  have HL := hid hl
  clear hcell hT hl
  go_enter Tryd.func18, Tryd.ntmps18
  go_wp2
  go_loop [0, 9] (fun x i => ∃ k : Nat, k ≤ l.length ∧ i = .int .i64 k ∧ x = .int .u32 (reg r (l.take k) : Nat)) (fun _ i => l.length - (intOf i).toNat)
  case atStart => exact ⟨0, Nat.zero_le _, rfl, rfl⟩
  case round =>
    obtain ⟨k, hk, rfl, rfl⟩ := hrel
    by_cases hlt : k < l.length
    · obtain ⟨b, off, rfl, hb, hcl⟩ := HC.out (by omega)
      have hck := hcl k hlt
      clear hcl
      have hx := HL.out l[k] (List.getElem_mem hlt)
      have HS := hid (reg_take r l k hlt)
      have HR := hid (reg_lt (l.take k) r hr (fun c hc => HL.out c (List.mem_of_mem_take hc)))
      generalize reg r (l.take k) = R at *
      generalize l[k] = x at *
      obtain ⟨a, i, t, a1, i1, t1, a2, ha, e1, e2, hi, e3, hc1, e4, hi1, hc2, e5⟩ := byte_facts (W := w) HR.out hx HT.out
      have HA := hid ha
      clear ha
      go_wp2
      go_round
      case rel => exact ⟨k + 1, by omega, by go_num, by rw [HS.out, ← HA.out]⟩
      case measure => simp [intOf]; omega
    · have hd : decide (k < l.length) = false := decide_eq_false hlt
      go_wp2
      go_ret
      exact ⟨by rw [List.take_of_length_le (by omega)]; rfl, rfl⟩

theorem Sum_any (v : Value) (l : List Nat) (w : World) (hl : ∀ c ∈ l, c < 256) (hv : Rd w v l) (hT : Tab w) (hlen : l.length ≤ 9223372036854775807) :
    Calls Tryd.prog 8 #[v] w fun e w' => e = .returned (.int .u32 (crc l : Int)) ∧ w = w' := by
  have hr := reg_lt l 4294967295 (by omega) hl
  have H := feed_any 4294967295 v l w (by omega) hl hv hT hlen
  have HH := hid H
  have HN := not32 hr
  clear H hl hv hT
  go_enter Tryd.func8, Tryd.ntmps8
  go_wp2_with (go_at_call 18; refine HH.out.mono ?_; rintro e w' ⟨rfl, rfl⟩)
  go_ret
  exact ⟨rfl, rfl⟩

theorem not32' {a : Nat} (ha : a < 4294967296) : bits .xor .u32 (a : Int) 4294967295 = ((4294967295 ^^^ a : Nat) : Int) := by
  rw [Nat.xor_comm]
  exact u32_xor_nat a 4294967295 ha (by omega)
theorem and1 {a : Nat} (ha : a < 4294967296) : bits .and .u32 (a : Int) 1 = ((a % 2 : Nat) : Int) := by
  have h := u32_and_nat a 1 ha (by omega)
  rw [show a &&& 1 = a % 2 from Nat.and_two_pow_sub_one_eq_mod a 1] at h
  exact h
/-- One bit of the reference's step, in the walk's spelling. -/
theorem bit_facts {C x j : Nat} (hC : C < 4294967296) (hx : x < 256) :
    (∃ p q C2 : Nat, bits .and .u32 (C : Int) 1 = (p : Int) ∧ bits .and .u32 ((x : Int) / 2 ^ j) 1 = (q : Int) ∧ bits .xor .u32 (p : Int) (q : Int) = 1 ∧ bits .xor .u32 ((C : Int) / 2) 2197175160 = (C2 : Int) ∧ refBit C x j = C2) ∨
    (∃ p q : Nat, bits .and .u32 (C : Int) 1 = (p : Int) ∧ bits .and .u32 ((x : Int) / 2 ^ j) 1 = (q : Int) ∧ bits .xor .u32 (p : Int) (q : Int) = 0 ∧ refBit C x j = C / 2) := by
  have hq : ((x : Int) / 2 ^ j) = ((x / 2 ^ j : Nat) : Int) := by simp
  have hxl : x / 2 ^ j < 4294967296 := Nat.lt_of_le_of_lt (Nat.div_le_self _ _) (by omega)
  have hh : ((C : Int) / 2) = ((C / 2 : Nat) : Int) := by omega
  have e1 := and1 hC
  have e2 := and1 hxl
  rw [← hq] at e2
  have e4 := u32_xor_nat (C / 2) 2197175160 (by omega) (by omega)
  rw [← hh] at e4
  unfold refBit
  rcases Nat.mod_two_eq_zero_or_one C with h0 | h0 <;> rcases Nat.mod_two_eq_zero_or_one (x / 2 ^ j) with h1 | h1 <;> rw [h0] at e1 ⊢ <;> rw [h1] at e2 ⊢
  · exact .inr ⟨0, 0, e1, e2, by decide, by simp⟩
  · exact .inl ⟨0, 1, _, e1, e2, by decide, e4, by simp⟩
  · exact .inl ⟨1, 0, _, e1, e2, by decide, e4, by simp⟩
  · exact .inr ⟨1, 1, e1, e2, by decide, by simp⟩

set_option maxRecDepth 100000 in
set_option maxHeartbeats 400000 in
theorem ref_Sum_any (v : Value) (l : List Nat) (w : World) (hl : ∀ c ∈ l, c < 256) (hv : Rd w v l) (hlen : l.length ≤ 9223372036854775807) :
    Calls Tryd.prog 9 #[v] w fun e w' => e = .returned (.int .u32 (crc l : Int)) ∧ w = w' := by
  obtain ⟨A, c, rfl, hc, hcell⟩ := hv
  have HC := hid hcell
  have HL := hid hl
  clear hcell hl
  go_enter Tryd.func9, Tryd.ntmps9
  go_wp2
  go_loop [3, 4] (fun x i => ∃ k : Nat, k ≤ l.length ∧ i = .int .i64 k ∧ x = .int .u32 (reg 4294967295 (l.take k) : Nat)) (fun _ i => l.length - (intOf i).toNat)
  case atStart => exact ⟨0, Nat.zero_le _, rfl, rfl⟩
  case round =>
    obtain ⟨k, hk, rfl, rfl⟩ := hrel
    by_cases hlt : k < l.length
    · obtain ⟨b, off, rfl, hb, hcl⟩ := HC.out (by omega)
      have hck := hcl k hlt
      clear hcl
      have hx := HL.out l[k] (List.getElem_mem hlt)
      have HT := hid (reg_take 4294967295 l k hlt)
      have HR := hid (reg_lt (l.take k) 4294967295 (by omega) (fun c hc => HL.out c (List.mem_of_mem_take hc)))
      generalize reg 4294967295 (l.take k) = R at *
      generalize l[k] = x at *
      go_wp2
      go_loop [3, 5] (fun y i => ∃ j : Nat, j ≤ 8 ∧ i = .int .i64 j ∧ y = .int .u32 (refTo R x j : Nat)) (fun _ i => 8 - (intOf i).toNat)
      case atStart => exact ⟨0, by omega, rfl, rfl⟩
      case round =>
        obtain ⟨j, hj, rfl, rfl⟩ := hrel
        have hrt := refTo_lt (c := R) (b := x) HR.out j
        have HS := hid (show refTo R x (j + 1) = refBit (refTo R x j) x j from rfl)
        have H8 := hid (refTo_eight R x hx)
        generalize hC : refTo R x j = C at *
        have HC2 := hid hC
        clear hC
        by_cases hj8 : (j : Int) < 8
        · rcases bit_facts (j := j) hrt hx with ⟨p, q, C2, e1, e2, e3, e4, h⟩ | ⟨p, q, e1, e2, e3, h⟩
          · have HH := hid h
            clear h
            go_wp2
            go_round
            case rel => exact ⟨j + 1, by omega, by go_num, by rw [HS.out, HH.out]⟩
            case measure => simp [intOf]; omega
          · have HH := hid h
            clear h
            go_wp2
            go_round
            case rel => exact ⟨j + 1, by omega, by go_num, by rw [HS.out, HH.out]; go_num⟩
            case measure => simp [intOf]; omega
        · obtain rfl : j = 8 := by omega
          go_wp2
          go_round
          case rel => exact ⟨k + 1, by omega, by go_num, by rw [HT.out, ← H8.out, HC2.out]⟩
          case measure => simp [intOf]; omega
    · have hd : decide (k < l.length) = false := decide_eq_false hlt
      have hR := reg_lt (l.take k) 4294967295 (by omega) (fun c hc => HL.out c (List.mem_of_mem_take hc))
      have HE := hid (show reg 4294967295 (l.take k) = reg 4294967295 l by rw [List.take_of_length_le (by omega)])
      generalize reg 4294967295 (l.take k) = R at *
      have hn := not32' hR
      go_wp2
      go_ret
      exact ⟨by unfold crc; rw [← HE.out]; rfl, rfl⟩
end Go.Proofs.YtpcmonebihgjhaaDoor
