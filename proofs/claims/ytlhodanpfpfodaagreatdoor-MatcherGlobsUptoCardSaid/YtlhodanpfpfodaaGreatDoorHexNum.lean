/-
  What strconv.ParseUint answers of a text to the base 16 and of eight bits, over any program that lays it. Conditions: those that each theorem names.
-/
import Derived.Test.YtlhodanpfpfodaaGreatDoorUnq
import Derived.Shelf.Pu.ParseUint10b8
import Derived.Shelf.Pu.ToError
import Derived.Shelf.Pu.ToErrorRange
import Derived.Lib.AtoiErrMem
import Derived.Lib.ParseIntBMem
namespace Go.Proofs.YtlhodanpfpfodaaGreatDoor
open Go.RowKit Go.Icz Go.Shelf
/-- How ParseUint to the base 16 of eight bits ends. -/
def PU (T : TypeId) (o : Option Nat) (e : Ending) : Prop :=
  match o with
  | some m => e = .returned (.tuple #[.int .u64 m, .nilIface])
  | none => ∃ (x k : Int), (k = 1 ∨ k = 2) ∧ e = .returned (.tuple #[.int .u64 x, .iface T (.int .i64 k)])
theorem low_or : ∀ c : Fin 256, ((97 ≤ c.val ∧ c.val ≤ 122) ∨ (65 ≤ c.val ∧ c.val ≤ 90) → 97 ≤ bits BinOp.or IntKind.u8 (c.val : Int) 32 ∧ bits BinOp.or IntKind.u8 (c.val : Int) 32 ≤ 122) ∧
    (¬ ((97 ≤ c.val ∧ c.val ≤ 122) ∨ (65 ≤ c.val ∧ c.val ≤ 90)) → ¬ (97 ≤ bits BinOp.or IntKind.u8 (c.val : Int) 32 ∧ bits BinOp.or IntKind.u8 (c.val : Int) 32 ≤ 122)) ∧
    (97 ≤ c.val ∧ c.val ≤ 122 → bits BinOp.or IntKind.u8 (c.val : Int) 32 = (c.val : Int)) ∧ (65 ≤ c.val ∧ c.val ≤ 90 → bits BinOp.or IntKind.u8 (c.val : Int) 32 = (c.val : Int) + 32) := by
  decide +kernel
theorem hv_digit {n : Nat} (h : 48 ≤ n ∧ n ≤ 57) : hv n = n - 48 := by unfold hv; rw [if_pos h]
/-- A letter that is a digit, one that is none, and another sign. -/
theorem hv_letter (c : UInt8) (x : Int) (hx : x = bits BinOp.or IntKind.u8 (c.toNat : Int) 32) (h : ¬ (48 ≤ c.toNat ∧ c.toNat ≤ 57)) :
    (97 ≤ x ∧ x ≤ 122 ∧ ((x ≤ 102 ∧ (hv c.toNat : Int) = x - 87 ∧ hv c.toNat < 16) ∨ (102 < x ∧ hv c.toNat = 16))) ∨ (¬ (97 ≤ x ∧ x ≤ 122) ∧ hv c.toNat = 16) := by
  have hl := low_or ⟨c.toNat, c.toNat_lt⟩
  simp only at hl
  rw [← hx] at hl
  unfold hv
  rw [if_neg h]
  by_cases h1 : 97 ≤ c.toNat ∧ c.toNat ≤ 122
  · have e1 := hl.1 (.inl h1)
    have e2 := hl.2.2.1 h1
    refine .inl ⟨e1.1, e1.2, ?_⟩
    by_cases h2 : c.toNat ≤ 102
    · rw [if_pos ⟨h1.1, h2⟩]; exact .inl ⟨by omega, by omega, by omega⟩
    · rw [if_neg (by omega), if_neg (by omega)]; exact .inr ⟨by omega, rfl⟩
  · by_cases h3 : 65 ≤ c.toNat ∧ c.toNat ≤ 90
    · have e1 := hl.1 (.inr h3)
      have e2 := hl.2.2.2 h3
      refine .inl ⟨e1.1, e1.2, ?_⟩
      rw [if_neg (by omega)]
      by_cases h2 : c.toNat ≤ 70
      · rw [if_pos ⟨h3.1, h2⟩]; exact .inl ⟨by omega, by omega, by omega⟩
      · rw [if_neg (by omega)]; exact .inr ⟨by omega, rfl⟩
    · refine .inr ⟨hl.2.1 (by omega), ?_⟩
      rw [if_neg (by omega), if_neg (by omega)]
theorem PU.none_of {T : TypeId} {x k : Int} (hk : k = 1 ∨ k = 2) : PU T none (.returned (.tuple #[.int .u64 x, .iface T (.int .i64 k)])) := ⟨x, k, hk, rfl⟩
section
variable {P : Program} {ρ : Ren}
set_option maxHeartbeats 32000000 in
set_option maxRecDepth 100000 in
/-- internal/strconv.ParseUint(s, 16, 8), s not empty. -/
theorem ParseUint_16_b8 (L : LaysPu.n16 P ρ) (t : ByteArray) (hne : t.size ≠ 0) (hmax : t.size ≤ 9223372036854775806) (w : World) :
    Calls P (ρ.f 16) #[.string t, .int .i64 16, .int .i64 8] w fun e w' => PU (ρ.t 34) (pu 0 t.data.toList) e ∧ w' = Lib.bytesWorld w (ρ.t 5) t := by
  have mixed := L.mixed
  have t9 := L.t9; have a9 := L.a9; have z9 := L.z9; have v9 := L.v9
  have t3 := L.t3; have a3 := L.a3; have z3 := L.z3; have v3 := L.v3
  have t22 := L.t22; have a22 := L.a22; have z22 := L.z22; have v22 := L.v22
  have t24 := L.t24; have a24 := L.a24; have z24 := L.z24; have v24 := L.v24
  have t4 := L.t4; have a4 := L.a4; have z4 := L.z4; have v4 := L.v4
  have t34 := L.t34; have a34 := L.a34; have z34 := L.z34; have v34 := L.v34
  have t5 := L.t5; have a5 := L.a5; have z5 := L.z5; have v5 := L.v5
  have t36 := L.t36; have a36 := L.a36; have z36 := L.z36; have v36 := L.v36
  have t37 := L.t37; have a37 := L.a37; have z37 := L.z37; have v37 := L.v37
  have t0 := L.t0; have a0 := L.a0; have z0 := L.z0; have v0 := L.v0
  have e19 : ∀ args w, (callFunc (ρ.f 19) args).run P w = .ok (.enter (ρ.f 19) args) w := enters_of L.f19 (by kernel_rfl) rfl
  have hemp : t.toList.isEmpty = false := by
    rw [← decide_eq_emptyBytes]
    exact decide_eq_false (fun h => hne (by rw [h]; rfl))
  have hcv := Lib.run_convert_string_bytes (P := P) w (ρ.t 9) (ρ.t 37) (ρ.t 5) t (u := .string) L.t9 L.t37 L.t5
  have hB : ∀ j, j < t.size → (Lib.bytesWorld w (ρ.t 5) t).cell? ⟨w.heap.size, j, none⟩ = some (.int .u8 (t.data.toList.getD j 0).toNat) := fun j hj => Lib.bytesWorld_cell w (ρ.t 5) t j hj
  obtain ⟨W1, hW1⟩ : ∃ W1, W1 = Lib.bytesWorld w (ρ.t 5) t := ⟨_, rfl⟩
  rw [← hW1] at hcv hB ⊢
  clear hW1
  obtain ⟨bs, hL⟩ : ∃ bs, bs = t.data.toList := ⟨_, rfl⟩
  have hLn : bs.length = t.size := by rw [hL, Lib.size_eq]
  rw [← hL] at hB ⊢
  clear hL
  have hmv : IntKind.u64.wrap (IntKind.u64.wrap 256 - 1) = 255 := by
    rw [IntKind.wrap_u64, IntKind.wrap_u64]
    decide
  go_enter L.f16, BodyPu.n16_ntmps ρ
  go_wp2
  go_loop [12, 13, 101] (fun vu vn vi => ∃ (k acc : Nat) (a : Int), vu = .bool false ∧ vn = .int .u64 a ∧ vi = .int .i64 k ∧ k ≤ t.size ∧ Hid (a = (acc : Int) ∧ acc ≤ 255 ∧ pu 0 bs = pu acc (bs.drop k)))
    (fun _ _ vi => t.size - (intOf vi).toNat)
  case atStart => exact ⟨0, 0, 0, rfl, rfl, rfl, by omega, rfl, by omega, rfl⟩
  case round =>
    obtain ⟨k, acc, a, rfl, rfl, rfl, hk, hh⟩ := hrel
    obtain ⟨ha, hacc, hdec⟩ := hh.out
    clear hh
    have a0 : 0 ≤ a := by omega
    have a1 : a ≤ 255 := by omega
    by_cases hkn : k < t.size
    · have hc := hB k hkn
      have hdrop : bs.drop k = bs[k]'(by omega) :: bs.drop (k + 1) := List.drop_eq_getElem_cons (by omega)
      have hget : bs.getD k 0 = bs[k]'(by omega) := by simp [List.getD, List.getElem?_eq_getElem (show k < bs.length by omega)]
      rw [hdrop] at hdec
      rw [hget] at hc
      generalize bs[k]'(by omega) = c at hc hdec
      have hc256 : c.toNat < 256 := c.toNat_lt
      clear hB hdrop hget
      have hstep : pu acc (c :: bs.drop (k + 1)) = if hv c.toNat < 16 ∧ acc * 16 + hv c.toNat ≤ 255 then pu (acc * 16 + hv c.toNat) (bs.drop (k + 1)) else none := rfl
      rw [hstep] at hdec
      clear hstep
      by_cases hdig : 48 ≤ c.toNat ∧ c.toNat ≤ 57
      · have hD := hv_digit hdig
        rw [hD] at hdec
        clear hD
        obtain ⟨hd0, hd1⟩ := hdig
        by_cases hov : 255 < acc * 16 + (c.toNat - 48)
        · rw [if_neg (by omega)] at hdec
          have HD := Lib.hid hdec
          have iov : 255 < a * 16 + ((c.toNat : Int) - 48) := by omega
          clear hacc hdec hov ha
          go_wp2
          go_ret2
          exact ⟨by rw [HD.out]; exact PU.none_of (.inl rfl), rfl⟩
        · rw [if_pos (by omega)] at hdec
          have HN : Hid (a * 16 + ((c.toNat : Int) - 48) = ((acc * 16 + (c.toNat - 48) : Nat) : Int) ∧ acc * 16 + (c.toNat - 48) ≤ 255 ∧ pu 0 bs = pu (acc * 16 + (c.toNat - 48)) (bs.drop (k + 1))) := Lib.hid ⟨by omega, by omega, hdec⟩
          have iov : a * 16 + ((c.toNat : Int) - 48) ≤ 255 := by omega
          clear hacc hov hdec ha
          go_wp2
          refine ⟨⟨k + 1, acc * 16 + (c.toNat - 48), a * 16 + ((c.toNat : Int) - 48), rfl, (by first | rfl | (congr 1; omega)), (by first | rfl | (congr 1; omega)), by omega, HN⟩, by simp [intOf]; omega⟩
      · by_cases h95 : c.toNat = 95
        · have hnone : pu 0 bs = none := by rw [hdec, if_neg (by rw [h95]; intro h; exact absurd h.1 (by decide))]
          have HD := Lib.hid hnone
          have hlow : ∀ w, Calls P (ρ.f 19) #[.int .u8 95] w fun e w' => e = .returned (.int .u8 127) ∧ w' = w := fun w => (AnyPu.internal_strconv_lower { L with } 95 w).mono fun e w' h => ⟨by rw [h.1]; rfl, h.2⟩
          have hc95 : (c.toNat : Int) = 95 := by omega
          rw [hc95] at hc
          clear hacc hdec ha hnone hdig h95 hc95 hc256
          go_wp2_with (go_at_fn (ρ.f 19); refine (hlow _).mono ?_; rintro e w' ⟨rfl, rfl⟩)
          all_goals go_ret2
          all_goals exact ⟨by rw [HD.out]; exact PU.none_of (.inr rfl), rfl⟩
        have h95' : ((c.toNat : Int) == 95) = false := by simp; omega
        clear h95
        have hv0 := bits_lo_u8 .or (c.toNat : Int) 32
        have hv1 := bits_hi_u8 .or (c.toNat : Int) 32
        have hlow : ∀ w, Calls P (ρ.f 19) #[.int .u8 (c.toNat : Int)] w fun e w' => e = .returned (.int .u8 (bits BinOp.or IntKind.u8 (c.toNat : Int) 32)) ∧ w' = w := fun w => (AnyPu.internal_strconv_lower { L with } _ _).mono fun e w' h => h
        have hL := hv_letter c _ rfl hdig
        generalize bits BinOp.or IntKind.u8 (c.toNat : Int) 32 = x at hv0 hv1 hlow hL
        have hdig2 : ¬ (48 ≤ (c.toNat : Int) ∧ (c.toNat : Int) ≤ 57) := by omega
        have hnd : ¬ (hv c.toNat < 16 ∧ acc * 16 + hv c.toNat ≤ 255) → pu 0 bs = none := fun h => by rw [hdec, if_neg h]
        rcases hL with ⟨x0, x1, ⟨x2, hh, hh2⟩ | ⟨x2, hh⟩⟩ | ⟨x0, hh⟩
        · by_cases hov : 255 < acc * 16 + hv c.toNat
          · have HD := Lib.hid (hnd (by omega))
            have iov : 255 < a * 16 + (x - 97 + 10) := by omega
            clear hacc hdec hov ha hh hh2 hnd hdig
            go_wp2_with (go_at_fn (ρ.f 19); refine (hlow _).mono ?_; rintro e w' ⟨rfl, rfl⟩)
            all_goals go_ret2
            all_goals exact ⟨by rw [HD.out]; exact PU.none_of (.inl rfl), rfl⟩
          · rw [if_pos (by omega)] at hdec
            have HN : Hid (a * 16 + (x - 97 + 10) = ((acc * 16 + hv c.toNat : Nat) : Int) ∧ acc * 16 + hv c.toNat ≤ 255 ∧ pu 0 bs = pu (acc * 16 + hv c.toNat) (bs.drop (k + 1))) := Lib.hid ⟨by omega, by omega, hdec⟩
            have iov : a * 16 + (x - 97 + 10) ≤ 255 := by omega
            clear hacc hdec hov ha hh hh2 hnd hdig
            go_wp2_with (go_at_fn (ρ.f 19); refine (hlow _).mono ?_; rintro e w' ⟨rfl, rfl⟩)
            all_goals refine ⟨⟨k + 1, acc * 16 + hv c.toNat, a * 16 + (x - 97 + 10), rfl, (by first | rfl | (congr 1; omega)), (by first | rfl | (congr 1; omega)), by omega, HN⟩, by simp [intOf]; omega⟩
        · have HD := Lib.hid (hnd (by omega))
          have iov : ¬ (x - 97 + 10 < 16) := by omega
          clear hacc hdec ha hh hnd hdig
          go_wp2_with (go_at_fn (ρ.f 19); refine (hlow _).mono ?_; rintro e w' ⟨rfl, rfl⟩)
          all_goals go_ret2
          all_goals exact ⟨by rw [HD.out]; exact PU.none_of (.inr rfl), rfl⟩
        · have HD := Lib.hid (hnd (by omega))
          have x0' : x < 97 ∨ 122 < x := by omega
          clear hacc hdec ha hh hnd hdig x0
          rcases x0' with x0 | x0
          all_goals
            go_wp2_with (go_at_fn (ρ.f 19); refine (hlow _).mono ?_; rintro e w' ⟨rfl, rfl⟩)
            all_goals go_ret2
            all_goals exact ⟨by rw [HD.out]; exact PU.none_of (.inr rfl), rfl⟩
    · have hkk : k = t.size := by omega
      subst hkk
      have hF : pu acc (bs.drop t.size) = some acc := by rw [List.drop_eq_nil_of_le (by omega)]; rfl
      rw [hF] at hdec
      subst ha
      have HD := Lib.hid hdec
      clear hacc hF a0 a1 hdec
      go_wp2
      go_ret2
      exact ⟨by rw [HD.out]; rfl, rfl⟩
end
section
variable {P : Program} {ρ : Ren}
set_option maxHeartbeats 4000000 in
set_option maxRecDepth 100000 in
theorem ParseUint_16_empty (L : LaysPu.n16 P ρ) (w : World) : Calls P (ρ.f 16) #[.string ⟨#[]⟩, .int .i64 16, .int .i64 8] w fun e w' => PU (ρ.t 34) none e ∧ w' = w := by
  have mixed := L.mixed
  have t9 := L.t9; have a9 := L.a9; have z9 := L.z9; have v9 := L.v9
  have t3 := L.t3; have a3 := L.a3; have z3 := L.z3; have v3 := L.v3
  have t22 := L.t22; have a22 := L.a22; have z22 := L.z22; have v22 := L.v22
  have t24 := L.t24; have a24 := L.a24; have z24 := L.z24; have v24 := L.v24
  have t4 := L.t4; have a4 := L.a4; have z4 := L.z4; have v4 := L.v4
  have t34 := L.t34; have a34 := L.a34; have z34 := L.z34; have v34 := L.v34
  go_enter L.f16, BodyPu.n16_ntmps ρ
  go_wp2
  go_ret2
  exact ⟨PU.none_of (.inr rfl), rfl⟩
/-- internal/strconv.ParseUint(s, 16, 8). -/
theorem ParseUint_16_any (L : LaysPu.n16 P ρ) (t : ByteArray) (hmax : t.size ≤ 9223372036854775806) (w : World) :
    Calls P (ρ.f 16) #[.string t, .int .i64 16, .int .i64 8] w fun e w' => PU (ρ.t 34) (parse16 t.data.toList) e ∧ Below w.heap.size w w' := by
  by_cases h0 : t.size = 0
  · have ht : t = ⟨#[]⟩ := by
      obtain ⟨⟨l⟩⟩ := t
      cases l with
      | nil => rfl
      | cons _ _ => simp [ByteArray.size] at h0
    subst ht
    refine (ParseUint_16_empty L w).mono ?_
    rintro e w' ⟨he, rfl⟩
    exact ⟨he, Below.refl _ _⟩
  · have hne : t.data.toList ≠ [] := fun h => h0 (by rw [Lib.size_eq, h]; rfl)
    refine (ParseUint_16_b8 L t h0 hmax w).mono ?_
    rintro e w' ⟨he, rfl⟩
    exact ⟨by unfold parse16; rw [if_neg hne]; exact he, Lib.bytesWorld_below _ _ _⟩
/-- How the public one ends. -/
def PUB (o : Option Nat) (e : Ending) : Prop :=
  match o with
  | some m => e = .returned (.tuple #[.int .u64 m, .nilIface])
  | none => ∃ (x : Int) (T : TypeId) (N : Nat), e = .returned (.tuple #[.int .u64 x, .iface T (.pointer (some ⟨N, 0, none⟩))])
set_option maxHeartbeats 4000000 in
set_option maxRecDepth 100000 in
/-- strconv.ParseUint(s, 16, 8). -/
theorem ParseUint_16_public (L : LaysPu.n14 P ρ) (s : ByteArray) (hlim : s.size ≤ 281474976710656) (ev er : Value) (w : World) (hv : w.cell? ⟨(ρ.g 0), 0, none⟩ = some ev) (hev : ev = .nilIface ∨ ∃ te pe, ev = .iface te pe)
    (hr : w.cell? ⟨(ρ.g 1), 0, none⟩ = some er) (her : er = .nilIface ∨ ∃ te pe, er = .iface te pe) :
    Calls P (ρ.f 14) #[.string s, .int .i64 16, .int .i64 8] w fun e w' => PUB (parse16 s.data.toList) e ∧ Below w.heap.size w w' := by
  have mixed := L.mixed
  have t9 := L.t9; have a9 := L.a9; have z9 := L.z9; have v9 := L.v9
  have t3 := L.t3; have a3 := L.a3; have z3 := L.z3; have v3 := L.v3
  have t22 := L.t22; have a22 := L.a22; have z22 := L.z22; have v22 := L.v22
  have t24 := L.t24; have a24 := L.a24; have z24 := L.z24; have v24 := L.v24
  have t25 := L.t25; have a25 := L.a25; have z25 := L.z25; have v25 := L.v25
  have t4 := L.t4; have a4 := L.a4; have z4 := L.z4; have v4 := L.v4
  have e16 : ∀ args w, (callFunc (ρ.f 16) args).run P w = .ok (.enter (ρ.f 16) args) w := enters_of L.f16 (by kernel_rfl) rfl
  have e17 : ∀ args w, (callFunc (ρ.f 17) args).run P w = .ok (.enter (ρ.f 17) args) w := enters_of L.f17 (by kernel_rfl) rfl
  have hG0 : (ρ.g 0) < w.heap.size := Lib.lt_of_cell hv
  have hG1 : (ρ.g 1) < w.heap.size := Lib.lt_of_cell hr
  have hI := ParseUint_16_any { L with } s (by omega) w
  generalize parse16 s.data.toList = o at hI
  cases o with
  | some m =>
    go_enter L.f14, BodyPu.n14_ntmps ρ
    go_wp2_with (go_at_fn (ρ.f 16); refine hI.mono ?_; rintro e W1 ⟨rfl, hW⟩)
    go_wp2
    go_ret2
    exact ⟨rfl, hW⟩
  | none =>
    go_enter L.f14, BodyPu.n14_ntmps ρ
    go_wp2_with (go_at_fn (ρ.f 16); refine hI.mono ?_)
    rintro e W1 ⟨⟨x, k, hk, rfl⟩, hb1⟩
    have hv1 : W1.cell? ⟨(ρ.g 0), 0, none⟩ = some ev := (hb1.cell (show (⟨(ρ.g 0), 0, none⟩ : Addr).block < w.heap.size from hG0)).trans hv
    have hr1 : W1.cell? ⟨(ρ.g 1), 0, none⟩ = some er := (hb1.cell (show (⟨(ρ.g 1), 0, none⟩ : Addr).block < w.heap.size from hG1)).trans hr
    rcases hk with rfl | rfl
    · go_wp2_with (go_at_fn (ρ.f 17); refine (AnyPu.strconv_toError_range { L with } ⟨#[80, 97, 114, 115, 101, 85, 105, 110, 116]⟩ s 16 8 er _ hlim ?_ her).mono ?_)
      · exact hr1
      rintro e W2 ⟨N, rfl, h1, h2, h3⟩
      go_wp2
      go_ret2
      exact ⟨⟨_, _, N, rfl⟩, hb1.trans (h3.mono hb1.size)⟩
    · go_wp2_with (go_at_fn (ρ.f 17); refine (AnyPu.strconv_toError_syntax { L with } ⟨#[80, 97, 114, 115, 101, 85, 105, 110, 116]⟩ s 16 8 ev _ hlim ?_ hev).mono ?_)
      · exact hv1
      rintro e W2 ⟨N, rfl, h1, h2, h3⟩
      go_wp2
      go_ret2
      exact ⟨⟨_, _, N, rfl⟩, hb1.trans (h3.mono hb1.size)⟩
end
end Go.Proofs.YtlhodanpfpfodaaGreatDoor
